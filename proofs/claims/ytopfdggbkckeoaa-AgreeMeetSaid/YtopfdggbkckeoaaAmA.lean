/- The law AgreeMeet: its walk. -/
import Derived.Test.YtopfdggbkckeoaaAbA
namespace Go.Proofs.Ytopfdggbkckeoaa
open Go Go.RowKit
open Tp (T)

theorem Mt_ok {t u : T} (h : Tp.ok t u = true) : Mt t u = Tp.meet t u := by unfold Mt; rw [if_pos h]
theorem meet_facts {t u : T} (h : Tp.ok t u = true) : Tp.ok t (Mt t u) = true ∧ Mt t (Mt t u) = Mt t u ∧ Tp.ok (Mt t u) u = true ∧ Mt (Mt t u) u = Mt t u ∧ Tp.size t ≤ Tp.size (Mt t u) ∧ Tp.size u ≤ Tp.size (Mt t u) ∧ Tp.size (Mt t u) ≤ Tp.size t + Tp.size u ∧ ((Tp.without 5 t || Tp.without 5 u) = true → Tp.without 5 (Mt t u) = true) := by
  obtain ⟨h1, h2, h3⟩ := ok_parts h
  have hr := Tp.meet_right t u h1 h2 h3
  have hc : Tp.agree u t = true := by rw [Tp.agree_comm u t h2 h1]; exact h3
  have hmc : Tp.meet u t = Tp.meet t u := Tp.meet_comm u t h2 h1 hc
  obtain ⟨q1, q2⟩ := Tp.agree_meet t u h1 h2 h3
  obtain ⟨p1, p2⟩ := Tp.agree_meet u t h2 h1 hc
  obtain ⟨s1, s2, s3⟩ := Tp.meet_size t u h1 h2 h3
  obtain ⟨r1, r2, _⟩ := Tp.meet_size u t h2 h1 hc
  rw [hmc] at p1 p2 r1 r2
  have ho1 : Tp.ok t (Tp.meet t u) = true := by unfold Tp.ok; rw [h1, hr, q1]; rfl
  have ho2 : Tp.ok u (Tp.meet t u) = true := by unfold Tp.ok; rw [h2, hr, p1]; rfl
  have ho3 : Tp.ok (Tp.meet t u) u = true := by rw [ok_comm]; exact ho2
  rw [Mt_ok h]
  refine ⟨ho1, by rw [Mt_ok ho1, q2], ho3, ?_, s1, r1, s3, fun hh => ?_⟩
  · rw [Mt_comm, Mt_ok ho2, p2]
  · rcases (Bool.or_eq_true _ _ ▸ hh : _ ∨ _) with h | h
    · exact s2 h
    · exact r2 h

set_option maxRecDepth 100000 in
set_option maxHeartbeats 4000000 in
theorem lmeet_any (t : T) (a : Option Addr) (cap : Nat) (u : T) (b : Option Addr) (cap' : Nat) (w : World) (hty : TyAt (LT w.heap.size) w t a cap) (hty' : TyAt (LT w.heap.size) w u b cap') :
    Calls Try.prog 6 #[tv t a cap, tv u b cap'] w fun e w' => e = .returned (.bool true) ∧ Below w.heap.size w w' := by
  obtain ⟨k0, n0, m0, hv⟩ := TV.mk t
  obtain ⟨k9, n9, m9, hv'⟩ := TV.mk u
  rw [tv_of hv, tv_of hv']
  obtain ⟨W2, hW2⟩ : ∃ W2, (w.alloc (.cells #[.int .i64 k0, .int .i64 n0, .slice a m0 cap] 24)).alloc (.cells #[.int .i64 k9, .int .i64 n9, .slice b m9 cap'] 24) = W2 := ⟨_, rfl⟩
  have hb2 : Below w.heap.size w W2 := by rw [← hW2]; exact ((Below.refl _ _).alloc (Nat.le_refl _) _).alloc (by simp) _
  have hs2 : W2.heap.size = w.heap.size + 2 := by rw [← hW2]; simp
  have bx : BoxT W2 w.heap.size t k0 n0 m0 a cap := ⟨hv, by rw [← hW2]; exact box1 _ _ _ _ _, ty_later hty hb2⟩
  have bu : BoxT W2 (w.heap.size + 1) u k9 n9 m9 b cap' := ⟨hv', by rw [← hW2]; exact box2 _ _ _ _ _, ty_later hty' hb2⟩
  obtain ⟨rr, hrr⟩ : ∃ r, (!decide (600 < Tp.sizes [t, u]) && Tp.rights [t, u]) = r := ⟨_, rfl⟩
  have hri := lright_any [t, u] (some ⟨W2.heap.size, 0, none⟩) 2 _ (by simp) (row_two bx.ty bu.ty hv.1 hv.2.1 hv.2.2 hv'.1 hv'.2.1 hv'.2.2)
  rw [hrr] at hri
  have HRI := Lib.hid hri; have HRR := Lib.hid hrr; have HB2 := Lib.hid hb2; have HS2 := Lib.hid hs2; have HW2 := Lib.hid hW2; have BX := Lib.hid bx; have BU := Lib.hid bu
  clear hri hrr hb2 hs2 hW2 hty hty' hv hv'
  go_enter Try.func6, Try.ntmps6
  go_upto_region 1 with fail
  rw [HW2.out]
  obtain ⟨c0, c1, c2⟩ := bx.cells
  obtain ⟨d0, d1, d2⟩ := bu.cells
  clear bx bu
  go_wp2_with fail
  refine HRI.out.mono ?_
  clear c0 c1 c2 d0 d1 d2
  rintro e w3 ⟨rfl, hb3⟩
  have hb23 : Below W2.heap.size W2 w3 := ((Below.refl _ _).alloc (Nat.le_refl _) _).tr hb3 (Nat.le_refl _)
  have BX3 := Lib.hid (BX.out.later hb23); have BU3 := Lib.hid (BU.out.later hb23); have HB3 := Lib.hid (HB2.out.tr hb23 (Nat.le_refl _))
  clear hb3 hb23
  cases rr with
  | false =>
    go_wp2_with fail
    go_ret
    exact ⟨rfl, HB3.out⟩
  | true =>
    obtain ⟨hrt, hru, hsz⟩ := pair_right HRR.out
    have HST := Lib.hid (show Tp.size t ≤ 10000 by omega); have HSU := Lib.hid (show Tp.size u ≤ 10000 by omega)
    have HRT := Lib.hid hrt; have HRU := Lib.hid hru
    have HSZ := Lib.hid hsz
    clear hrt hru hsz
    obtain ⟨c0, c1, c2⟩ := BX3.out.cells
    obtain ⟨d0, d1, d2⟩ := BU3.out.cells
    go_wp2_with fail
    refine (mt_any BX3.out.says BU3.out.says BX3.out.ty BU3.out.ty HST.out HSU.out).mono ?_
    clear c0 c1 c2 d0 d1 d2
    rintro e w4 ⟨k1, n1, m1, a1, p1, hv1, rfl, ty1, hb⟩
    obtain ⟨W5, hW5⟩ : ∃ W5, w4.alloc (.cells #[.int .i64 k1, .int .i64 n1, .slice a1 m1 p1] 24) = W5 := ⟨_, rfl⟩
    have hb5 : Below w4.heap.size w4 W5 := by rw [← hW5]; exact (Below.refl _ _).alloc (Nat.le_refl _) _
    have hbb := hb.tr hb5 (Nat.le_refl _)
    have BM5 := Lib.hid (show BoxT W5 w4.heap.size (Mt t u) k1 n1 m1 a1 p1 from ⟨hv1, by rw [← hW5]; exact World.alloc_heap_new w4 _, ty_later ty1 hb5⟩)
    have BX5 := Lib.hid (BX3.out.later hbb); have BU5 := Lib.hid (BU3.out.later hbb); have HB5 := Lib.hid (HB3.out.tr hbb (Nat.le_refl _)); have HW5 := Lib.hid hW5
    clear hW5 hb5 hbb hv1 ty1 hb
    obtain ⟨o, ho⟩ : ∃ o, Tp.ok t u = o := ⟨_, rfl⟩
    rw [ho]
    have HOK := Lib.hid ho
    clear ho
    go_upto_region 4 with fail
    rw [HW5.out]
    cases o with
    | false =>
      obtain ⟨c0, c1, c2⟩ := BX5.out.cells
      obtain ⟨d0, d1, d2⟩ := BU5.out.cells
      go_wp2_with fail
      refine (ag_any BX5.out.says BU5.out.says BX5.out.ty BU5.out.ty HST.out HSU.out).mono ?_
      rw [HOK.out]
      clear c0 c1 c2 d0 d1 d2
      rintro e w6 ⟨rfl, hb6⟩
      have HB6 := Lib.hid (HB5.out.tr hb6 (Nat.le_refl _)); clear hb6
      go_wp2_with fail
      refine (wakes_any w6).mono ?_
      rintro e w7 ⟨rfl, hb7⟩
      have HB7 := Lib.hid (HB6.out.tr hb7 (Nat.le_refl _)); clear hb7
      go_wp2_with fail
      go_ret
      exact ⟨rfl, HB7.out⟩
    | true =>
      obtain ⟨q1, q2, q3, q4, q5, q6, q7, q8⟩ := meet_facts HOK.out
      have HSM := Lib.hid (show Tp.size (Mt t u) ≤ 10000 by have := HSZ.out; omega)
      have Q1 := Lib.hid q1; have Q2 := Lib.hid q2; have Q3 := Lib.hid q3; have Q4 := Lib.hid q4; have Q5 := Lib.hid q5; have Q6 := Lib.hid q6; have Q8 := Lib.hid q8
      clear q1 q2 q3 q4 q5 q6 q7 q8
      obtain ⟨c0, c1, c2⟩ := BX5.out.cells
      obtain ⟨e0, e1, e2⟩ := BM5.out.cells
      go_wp2_with fail
      refine (mt_any BX5.out.says BM5.out.says BX5.out.ty BM5.out.ty HST.out HSM.out).mono ?_
      clear c0 c1 c2 e0 e1 e2
      rintro e w6 ⟨k2, n2, m2, a2, p2, hv2, rfl, ty2, hb⟩
      rw [Q2.out] at hv2 ty2
      rw [Q1.out]
      obtain ⟨W7, hW7⟩ : ∃ W7, w6.alloc (.cells #[.int .i64 k2, .int .i64 n2, .slice a2 m2 p2] 24) = W7 := ⟨_, rfl⟩
      have hb7 : Below w6.heap.size w6 W7 := by rw [← hW7]; exact (Below.refl _ _).alloc (Nat.le_refl _) _
      have hbb := hb.tr hb7 (Nat.le_refl _)
      have BN7 := Lib.hid (show BoxT W7 w6.heap.size (Mt t u) k2 n2 m2 a2 p2 from ⟨hv2, by rw [← hW7]; exact World.alloc_heap_new w6 _, ty_later ty2 hb7⟩)
      have BM7 := Lib.hid (BM5.out.later hbb); have BX7 := Lib.hid (BX5.out.later hbb); have BU7 := Lib.hid (BU5.out.later hbb); have HB7 := Lib.hid (HB5.out.tr hbb (Nat.le_refl _)); have HW7 := Lib.hid hW7
      clear hW7 hb7 hbb hv2 ty2 hb
      go_upto_region 7 with fail
      rw [HW7.out]
      obtain ⟨d0, d1, d2⟩ := BU7.out.cells
      obtain ⟨e0, e1, e2⟩ := BM7.out.cells
      go_wp2_with fail
      refine (mt_any BM7.out.says BU7.out.says BM7.out.ty BU7.out.ty HSM.out HSU.out).mono ?_
      clear d0 d1 d2 e0 e1 e2
      rintro e w8 ⟨k3, n3, m3, a3, p3, hv3, rfl, ty3, hb⟩
      rw [Q4.out] at hv3 ty3
      rw [Q3.out]
      obtain ⟨W9, hW9⟩ : ∃ W9, w8.alloc (.cells #[.int .i64 k3, .int .i64 n3, .slice a3 m3 p3] 24) = W9 := ⟨_, rfl⟩
      have hb9 : Below w8.heap.size w8 W9 := by rw [← hW9]; exact (Below.refl _ _).alloc (Nat.le_refl _) _
      have hbb := hb.tr hb9 (Nat.le_refl _)
      have bs9 : BoxT W9 w8.heap.size (Mt t u) k3 n3 m3 a3 p3 := ⟨hv3, by rw [← hW9]; exact World.alloc_heap_new w8 _, ty_later ty3 hb9⟩
      have bn9 := BN7.out.later hbb; have bm9 := BM7.out.later hbb; have bx9 := BX7.out.later hbb; have bu9 := BU7.out.later hbb
      have HB9 := Lib.hid (HB7.out.tr hbb (Nat.le_refl _)); have HW9 := Lib.hid hW9
      have HWT := Lib.hid (fun x (h : Below W9.heap.size W9 x) => wo_any (w := x) 5 (bx9.later h).says (bx9.later h).ty)
      have HWU := Lib.hid (fun x (h : Below W9.heap.size W9 x) => wo_any (w := x) 5 (bu9.later h).says (bu9.later h).ty)
      have HWM := Lib.hid (fun x (h : Below W9.heap.size W9 x) => wo_any (w := x) 5 (bm9.later h).says (bm9.later h).ty)
      have HZT := Lib.hid (fun x (h : Below W9.heap.size W9 x) => sz_any (w := x) (bx9.later h).says (bx9.later h).ty HST.out)
      have HZU := Lib.hid (fun x (h : Below W9.heap.size W9 x) => sz_any (w := x) (bu9.later h).says (bu9.later h).ty HSU.out)
      have HZM := Lib.hid (fun x (h : Below W9.heap.size W9 x) => sz_any (w := x) (bm9.later h).says (bm9.later h).ty HSM.out)
      have HSXM := Lib.hid (fun x (h : Below W9.heap.size W9 x) => ks_any (w := x) (bn9.later h).says (bm9.later h).says (bn9.later h).ty (bm9.later h).ty)
      have HSYM := Lib.hid (fun x (h : Below W9.heap.size W9 x) => ks_any (w := x) (bs9.later h).says (bm9.later h).says (bs9.later h).ty (bm9.later h).ty)
      have HWAK := Lib.hid (fun x (_ : Below W9.heap.size W9 x) => wakes_any x)
      have HCELL := Lib.hid (fun x (h : Below W9.heap.size W9 x) => (⟨(bx9.later h).cells, (bu9.later h).cells, (bm9.later h).cells, (bn9.later h).cells, (bs9.later h).cells⟩ : _ ∧ _ ∧ _ ∧ _ ∧ _))
      have HLE := Lib.hid (fun x (h : Below W9.heap.size W9 x) => h.size)
      rw [Tp.same_refl] at HSXM HSYM
      obtain ⟨wt, hwt⟩ : ∃ b, Tp.without 5 t = b := ⟨_, rfl⟩
      obtain ⟨wu, hwu⟩ : ∃ b, Tp.without 5 u = b := ⟨_, rfl⟩
      obtain ⟨wm, hwm⟩ : ∃ b, Tp.without 5 (Mt t u) = b := ⟨_, rfl⟩
      obtain ⟨zt, hzt⟩ : ∃ b, Tp.size t = b := ⟨_, rfl⟩
      obtain ⟨zu, hzu⟩ : ∃ b, Tp.size u = b := ⟨_, rfl⟩
      obtain ⟨zm, hzm⟩ : ∃ b, Tp.size (Mt t u) = b := ⟨_, rfl⟩
      rw [hwt] at HWT Q8; rw [hwu] at HWU Q8; rw [hwm] at HWM Q8
      rw [hzt] at HZT Q5; rw [hzu] at HZU Q6; rw [hzm] at HZM Q5 Q6
      have hge : (decide ((zm : Int) ≥ max (zt : Int) (zu : Int))) = true := by have := Q5.out; have := Q6.out; simp; omega
      have HGE := Lib.hid hge
      clear hW9 hb9 hbb hv3 ty3 hb bs9 bn9 bm9 bx9 bu9 hwt hwu hwm hzt hzu hzm hge
      go_upto_region 8 with fail
      rw [HW9.out]
      have HBd := Lib.hid (Below.refl W9.heap.size W9)
      obtain ⟨⟨c0, c1, c2⟩, ⟨d0, d1, d2⟩, -⟩ := HCELL.out _ HBd.out
      go_wp2_with fail
      refine (HWT.out _ HBd.out).mono ?_
      clear c0 c1 c2 d0 d1 d2
      rintro e y1 ⟨rfl, hb⟩
      have HY1 := Lib.hid (HBd.out.tr hb (Nat.le_refl _)); clear hb
      obtain ⟨⟨c0, c1, c2⟩, ⟨d0, d1, d2⟩, -⟩ := HCELL.out _ HY1.out
      have hg1 : max (zt : Int) (zu : Int) ≤ (zm : Int) := by have := Q5.out; have := Q6.out; omega
      have hg2 : (zt : Int) ≤ (zm : Int) := by have := Q5.out; omega
      have hg3 : (zu : Int) ≤ (zm : Int) := by have := Q6.out; omega
      have hgd := HGE.out
      cases wt with
      | true =>
        obtain rfl : wm = true := Q8.out rfl
        go_wp2_with fail
        clear c0 c1 c2 d0 d1 d2
        have HBd := Lib.hid HY1.out.drew
        obtain ⟨⟨c0, c1, c2⟩, ⟨d0, d1, d2⟩, ⟨e0, e1, e2⟩, ⟨g0, g1, g2⟩, ⟨h0, h1, h2⟩⟩ := HCELL.out _ HBd.out
        refine wp_region_seq [(0, false), (0, false), (0, false), (0, false), (0, false), (0, false), (0, false), (0, true), (0, false), (0, false), (0, false), (0, false), (0, true), (0, false), (0, false), (0, false), (0, false), (0, false), (0, false), (0, true), (0, false), (0, false), (0, false), (0, false), (1, false), (2, false), (0, true), (0, true), (0, true), (0, false), (0, false), (0, false), (0, false), (0, true), (0, false), (0, false)] (by kernel_rfl) (by kernel_rfl) (by kernel_rfl) (fun _ _ _ d _ h => by cases d <;> exact h) ?_
        repeat
          first
          | (first | with_reducible refine sp0 (fun K hK => ?_) | with_reducible refine sp1 (fun K hK => ?_) | with_reducible refine sp2 (fun K hK => ?_) | with_reducible refine sp3 (fun K hK => ?_) | with_reducible refine sp4 (fun K hK => ?_)
             go_simp
             first
             | (with_reducible refine hK _ _ ?_; clear hK K)
             | (with_reducible apply Exists.intro
                refine ⟨fun x hx => ?_, hK _ _ ?_⟩
                first
                  | (with_reducible exact rfl)
                  | (have y0 := keepc hx c0; have y1 := keepc hx c1; have y2 := keepc hx c2; have y3 := keepc hx d0; have y4 := keepc hx d1; have y5 := keepc hx d2; have y6 := keepc hx e0; have y7 := keepc hx e1; have y8 := keepc hx e2; have y9 := keepc hx g0; have y10 := keepc hx g1; have y11 := keepc hx g2; have y12 := keepc hx h0; have y13 := keepc hx h1; have y14 := keepc hx h2; go_simp; done)
                  | (have y0 := keepc hx c0; have y1 := keepc hx c1; have y2 := keepc hx c2; have y3 := keepc hx d0; have y4 := keepc hx d1; have y5 := keepc hx d2; have y6 := keepc hx e0; have y7 := keepc hx e1; have y8 := keepc hx e2; have y9 := keepc hx g0; have y10 := keepc hx g1; have y11 := keepc hx g2; have y12 := keepc hx h0; have y13 := keepc hx h1; have y14 := keepc hx h2; go_simp; with_reducible exact rfl)
                clear hK K))
          | (first | with_reducible refine sk0 ?_ (fun K hK => ?_) | with_reducible refine sk1 ?_ (fun K hK => ?_) | with_reducible refine sk2 ?_ (fun K hK => ?_) | with_reducible refine sk3 ?_ (fun K hK => ?_) | with_reducible refine sk4 ?_ (fun K hK => ?_)
             rfl
             go_simp
             with_reducible refine hK _ _ ?_
             clear hK K)
        first | with_reducible refine sc0 (fun K hK => ?_) | with_reducible refine sc1 (fun K hK => ?_) | with_reducible refine sc2 (fun K hK => ?_) | with_reducible refine sc3 (fun K hK => ?_) | with_reducible refine sc4 (fun K hK => ?_)
        go_simp
        refine (HSXM.out _ HBd.out).mono ?_
        clear c0 c1 c2 d0 d1 d2 e0 e1 e2 g0 g1 g2 h0 h1 h2
        rintro e v1 ⟨rfl, hb9⟩
        refine ⟨hb9, hK _ _ ?_⟩
        clear hK K
        have HC1 := Lib.hid (HBd.out.trans (hb9.mono (HLE.out _ HBd.out)))
        clear hb9
        obtain ⟨⟨c0, c1, c2⟩, ⟨d0, d1, d2⟩, ⟨e0, e1, e2⟩, ⟨g0, g1, g2⟩, ⟨h0, h1, h2⟩⟩ := HCELL.out v1 HC1.out
        repeat
          first
          | (first | with_reducible refine sp0 (fun K hK => ?_) | with_reducible refine sp1 (fun K hK => ?_) | with_reducible refine sp2 (fun K hK => ?_) | with_reducible refine sp3 (fun K hK => ?_) | with_reducible refine sp4 (fun K hK => ?_)
             go_simp
             first
             | (with_reducible refine hK _ _ ?_; clear hK K)
             | (with_reducible apply Exists.intro
                refine ⟨fun x hx => ?_, hK _ _ ?_⟩
                first
                  | (with_reducible exact rfl)
                  | (have y0 := keepc hx c0; have y1 := keepc hx c1; have y2 := keepc hx c2; have y3 := keepc hx d0; have y4 := keepc hx d1; have y5 := keepc hx d2; have y6 := keepc hx e0; have y7 := keepc hx e1; have y8 := keepc hx e2; have y9 := keepc hx g0; have y10 := keepc hx g1; have y11 := keepc hx g2; have y12 := keepc hx h0; have y13 := keepc hx h1; have y14 := keepc hx h2; go_simp; done)
                  | (have y0 := keepc hx c0; have y1 := keepc hx c1; have y2 := keepc hx c2; have y3 := keepc hx d0; have y4 := keepc hx d1; have y5 := keepc hx d2; have y6 := keepc hx e0; have y7 := keepc hx e1; have y8 := keepc hx e2; have y9 := keepc hx g0; have y10 := keepc hx g1; have y11 := keepc hx g2; have y12 := keepc hx h0; have y13 := keepc hx h1; have y14 := keepc hx h2; go_simp; with_reducible exact rfl)
                clear hK K))
          | (first | with_reducible refine sk0 ?_ (fun K hK => ?_) | with_reducible refine sk1 ?_ (fun K hK => ?_) | with_reducible refine sk2 ?_ (fun K hK => ?_) | with_reducible refine sk3 ?_ (fun K hK => ?_) | with_reducible refine sk4 ?_ (fun K hK => ?_)
             rfl
             go_simp
             with_reducible refine hK _ _ ?_
             clear hK K)
        first | with_reducible refine sc0 (fun K hK => ?_) | with_reducible refine sc1 (fun K hK => ?_) | with_reducible refine sc2 (fun K hK => ?_) | with_reducible refine sc3 (fun K hK => ?_) | with_reducible refine sc4 (fun K hK => ?_)
        go_simp
        refine (HSYM.out _ HC1.out).mono ?_
        clear c0 c1 c2 d0 d1 d2 e0 e1 e2 g0 g1 g2 h0 h1 h2
        rintro e v2 ⟨rfl, hb9⟩
        refine ⟨hb9, hK _ _ ?_⟩
        clear hK K
        have HC2 := Lib.hid (HC1.out.trans (hb9.mono (HLE.out _ HC1.out)))
        clear hb9
        obtain ⟨⟨c0, c1, c2⟩, ⟨d0, d1, d2⟩, ⟨e0, e1, e2⟩, ⟨g0, g1, g2⟩, ⟨h0, h1, h2⟩⟩ := HCELL.out v2 HC2.out
        repeat
          first
          | (first | with_reducible refine sp0 (fun K hK => ?_) | with_reducible refine sp1 (fun K hK => ?_) | with_reducible refine sp2 (fun K hK => ?_) | with_reducible refine sp3 (fun K hK => ?_) | with_reducible refine sp4 (fun K hK => ?_)
             go_simp
             first
             | (with_reducible refine hK _ _ ?_; clear hK K)
             | (with_reducible apply Exists.intro
                refine ⟨fun x hx => ?_, hK _ _ ?_⟩
                first
                  | (with_reducible exact rfl)
                  | (have y0 := keepc hx c0; have y1 := keepc hx c1; have y2 := keepc hx c2; have y3 := keepc hx d0; have y4 := keepc hx d1; have y5 := keepc hx d2; have y6 := keepc hx e0; have y7 := keepc hx e1; have y8 := keepc hx e2; have y9 := keepc hx g0; have y10 := keepc hx g1; have y11 := keepc hx g2; have y12 := keepc hx h0; have y13 := keepc hx h1; have y14 := keepc hx h2; go_simp; done)
                  | (have y0 := keepc hx c0; have y1 := keepc hx c1; have y2 := keepc hx c2; have y3 := keepc hx d0; have y4 := keepc hx d1; have y5 := keepc hx d2; have y6 := keepc hx e0; have y7 := keepc hx e1; have y8 := keepc hx e2; have y9 := keepc hx g0; have y10 := keepc hx g1; have y11 := keepc hx g2; have y12 := keepc hx h0; have y13 := keepc hx h1; have y14 := keepc hx h2; go_simp; with_reducible exact rfl)
                clear hK K))
          | (first | with_reducible refine sk0 ?_ (fun K hK => ?_) | with_reducible refine sk1 ?_ (fun K hK => ?_) | with_reducible refine sk2 ?_ (fun K hK => ?_) | with_reducible refine sk3 ?_ (fun K hK => ?_) | with_reducible refine sk4 ?_ (fun K hK => ?_)
             rfl
             go_simp
             with_reducible refine hK _ _ ?_
             clear hK K)
        first | with_reducible refine sc0 (fun K hK => ?_) | with_reducible refine sc1 (fun K hK => ?_) | with_reducible refine sc2 (fun K hK => ?_) | with_reducible refine sc3 (fun K hK => ?_) | with_reducible refine sc4 (fun K hK => ?_)
        go_simp
        refine (HWM.out _ HC2.out).mono ?_
        clear c0 c1 c2 d0 d1 d2 e0 e1 e2 g0 g1 g2 h0 h1 h2
        rintro e v3 ⟨rfl, hb9⟩
        refine ⟨hb9, hK _ _ ?_⟩
        clear hK K
        have HC3 := Lib.hid (HC2.out.trans (hb9.mono (HLE.out _ HC2.out)))
        clear hb9
        obtain ⟨⟨c0, c1, c2⟩, ⟨d0, d1, d2⟩, ⟨e0, e1, e2⟩, ⟨g0, g1, g2⟩, ⟨h0, h1, h2⟩⟩ := HCELL.out v3 HC3.out
        repeat
          first
          | (first | with_reducible refine sp0 (fun K hK => ?_) | with_reducible refine sp1 (fun K hK => ?_) | with_reducible refine sp2 (fun K hK => ?_) | with_reducible refine sp3 (fun K hK => ?_) | with_reducible refine sp4 (fun K hK => ?_)
             go_simp
             first
             | (with_reducible refine hK _ _ ?_; clear hK K)
             | (with_reducible apply Exists.intro
                refine ⟨fun x hx => ?_, hK _ _ ?_⟩
                first
                  | (with_reducible exact rfl)
                  | (have y0 := keepc hx c0; have y1 := keepc hx c1; have y2 := keepc hx c2; have y3 := keepc hx d0; have y4 := keepc hx d1; have y5 := keepc hx d2; have y6 := keepc hx e0; have y7 := keepc hx e1; have y8 := keepc hx e2; have y9 := keepc hx g0; have y10 := keepc hx g1; have y11 := keepc hx g2; have y12 := keepc hx h0; have y13 := keepc hx h1; have y14 := keepc hx h2; go_simp; done)
                  | (have y0 := keepc hx c0; have y1 := keepc hx c1; have y2 := keepc hx c2; have y3 := keepc hx d0; have y4 := keepc hx d1; have y5 := keepc hx d2; have y6 := keepc hx e0; have y7 := keepc hx e1; have y8 := keepc hx e2; have y9 := keepc hx g0; have y10 := keepc hx g1; have y11 := keepc hx g2; have y12 := keepc hx h0; have y13 := keepc hx h1; have y14 := keepc hx h2; go_simp; with_reducible exact rfl)
                clear hK K))
          | (first | with_reducible refine sk0 ?_ (fun K hK => ?_) | with_reducible refine sk1 ?_ (fun K hK => ?_) | with_reducible refine sk2 ?_ (fun K hK => ?_) | with_reducible refine sk3 ?_ (fun K hK => ?_) | with_reducible refine sk4 ?_ (fun K hK => ?_)
             rfl
             go_simp
             with_reducible refine hK _ _ ?_
             clear hK K)
        first | with_reducible refine sc0 (fun K hK => ?_) | with_reducible refine sc1 (fun K hK => ?_) | with_reducible refine sc2 (fun K hK => ?_) | with_reducible refine sc3 (fun K hK => ?_) | with_reducible refine sc4 (fun K hK => ?_)
        go_simp
        refine (HZM.out _ HC3.out).mono ?_
        clear c0 c1 c2 d0 d1 d2 e0 e1 e2 g0 g1 g2 h0 h1 h2
        rintro e v4 ⟨rfl, hb9⟩
        refine ⟨hb9, hK _ _ ?_⟩
        clear hK K
        have HC4 := Lib.hid (HC3.out.trans (hb9.mono (HLE.out _ HC3.out)))
        clear hb9
        obtain ⟨⟨c0, c1, c2⟩, ⟨d0, d1, d2⟩, ⟨e0, e1, e2⟩, ⟨g0, g1, g2⟩, ⟨h0, h1, h2⟩⟩ := HCELL.out v4 HC4.out
        repeat
          first
          | (first | with_reducible refine sp0 (fun K hK => ?_) | with_reducible refine sp1 (fun K hK => ?_) | with_reducible refine sp2 (fun K hK => ?_) | with_reducible refine sp3 (fun K hK => ?_) | with_reducible refine sp4 (fun K hK => ?_)
             go_simp
             first
             | (with_reducible refine hK _ _ ?_; clear hK K)
             | (with_reducible apply Exists.intro
                refine ⟨fun x hx => ?_, hK _ _ ?_⟩
                first
                  | (with_reducible exact rfl)
                  | (have y0 := keepc hx c0; have y1 := keepc hx c1; have y2 := keepc hx c2; have y3 := keepc hx d0; have y4 := keepc hx d1; have y5 := keepc hx d2; have y6 := keepc hx e0; have y7 := keepc hx e1; have y8 := keepc hx e2; have y9 := keepc hx g0; have y10 := keepc hx g1; have y11 := keepc hx g2; have y12 := keepc hx h0; have y13 := keepc hx h1; have y14 := keepc hx h2; go_simp; done)
                  | (have y0 := keepc hx c0; have y1 := keepc hx c1; have y2 := keepc hx c2; have y3 := keepc hx d0; have y4 := keepc hx d1; have y5 := keepc hx d2; have y6 := keepc hx e0; have y7 := keepc hx e1; have y8 := keepc hx e2; have y9 := keepc hx g0; have y10 := keepc hx g1; have y11 := keepc hx g2; have y12 := keepc hx h0; have y13 := keepc hx h1; have y14 := keepc hx h2; go_simp; with_reducible exact rfl)
                clear hK K))
          | (first | with_reducible refine sk0 ?_ (fun K hK => ?_) | with_reducible refine sk1 ?_ (fun K hK => ?_) | with_reducible refine sk2 ?_ (fun K hK => ?_) | with_reducible refine sk3 ?_ (fun K hK => ?_) | with_reducible refine sk4 ?_ (fun K hK => ?_)
             rfl
             go_simp
             with_reducible refine hK _ _ ?_
             clear hK K)
        first | with_reducible refine sc0 (fun K hK => ?_) | with_reducible refine sc1 (fun K hK => ?_) | with_reducible refine sc2 (fun K hK => ?_) | with_reducible refine sc3 (fun K hK => ?_) | with_reducible refine sc4 (fun K hK => ?_)
        go_simp
        refine (HZT.out _ HC4.out).mono ?_
        clear c0 c1 c2 d0 d1 d2 e0 e1 e2 g0 g1 g2 h0 h1 h2
        rintro e v5 ⟨rfl, hb9⟩
        refine ⟨hb9, hK _ _ ?_⟩
        clear hK K
        have HC5 := Lib.hid (HC4.out.trans (hb9.mono (HLE.out _ HC4.out)))
        clear hb9
        obtain ⟨⟨c0, c1, c2⟩, ⟨d0, d1, d2⟩, ⟨e0, e1, e2⟩, ⟨g0, g1, g2⟩, ⟨h0, h1, h2⟩⟩ := HCELL.out v5 HC5.out
        repeat
          first
          | (first | with_reducible refine sp0 (fun K hK => ?_) | with_reducible refine sp1 (fun K hK => ?_) | with_reducible refine sp2 (fun K hK => ?_) | with_reducible refine sp3 (fun K hK => ?_) | with_reducible refine sp4 (fun K hK => ?_)
             go_simp
             first
             | (with_reducible refine hK _ _ ?_; clear hK K)
             | (with_reducible apply Exists.intro
                refine ⟨fun x hx => ?_, hK _ _ ?_⟩
                first
                  | (with_reducible exact rfl)
                  | (have y0 := keepc hx c0; have y1 := keepc hx c1; have y2 := keepc hx c2; have y3 := keepc hx d0; have y4 := keepc hx d1; have y5 := keepc hx d2; have y6 := keepc hx e0; have y7 := keepc hx e1; have y8 := keepc hx e2; have y9 := keepc hx g0; have y10 := keepc hx g1; have y11 := keepc hx g2; have y12 := keepc hx h0; have y13 := keepc hx h1; have y14 := keepc hx h2; go_simp; done)
                  | (have y0 := keepc hx c0; have y1 := keepc hx c1; have y2 := keepc hx c2; have y3 := keepc hx d0; have y4 := keepc hx d1; have y5 := keepc hx d2; have y6 := keepc hx e0; have y7 := keepc hx e1; have y8 := keepc hx e2; have y9 := keepc hx g0; have y10 := keepc hx g1; have y11 := keepc hx g2; have y12 := keepc hx h0; have y13 := keepc hx h1; have y14 := keepc hx h2; go_simp; with_reducible exact rfl)
                clear hK K))
          | (first | with_reducible refine sk0 ?_ (fun K hK => ?_) | with_reducible refine sk1 ?_ (fun K hK => ?_) | with_reducible refine sk2 ?_ (fun K hK => ?_) | with_reducible refine sk3 ?_ (fun K hK => ?_) | with_reducible refine sk4 ?_ (fun K hK => ?_)
             rfl
             go_simp
             with_reducible refine hK _ _ ?_
             clear hK K)
        first | with_reducible refine sc0 (fun K hK => ?_) | with_reducible refine sc1 (fun K hK => ?_) | with_reducible refine sc2 (fun K hK => ?_) | with_reducible refine sc3 (fun K hK => ?_) | with_reducible refine sc4 (fun K hK => ?_)
        go_simp
        refine (HZU.out _ HC5.out).mono ?_
        clear c0 c1 c2 d0 d1 d2 e0 e1 e2 g0 g1 g2 h0 h1 h2
        rintro e v6 ⟨rfl, hb9⟩
        refine ⟨hb9, hK _ _ ?_⟩
        clear hK K
        have HC6 := Lib.hid (HC5.out.trans (hb9.mono (HLE.out _ HC5.out)))
        clear hb9
        obtain ⟨⟨c0, c1, c2⟩, ⟨d0, d1, d2⟩, ⟨e0, e1, e2⟩, ⟨g0, g1, g2⟩, ⟨h0, h1, h2⟩⟩ := HCELL.out v6 HC6.out
        repeat
          first
          | (first | with_reducible refine sp0 (fun K hK => ?_) | with_reducible refine sp1 (fun K hK => ?_) | with_reducible refine sp2 (fun K hK => ?_) | with_reducible refine sp3 (fun K hK => ?_) | with_reducible refine sp4 (fun K hK => ?_)
             go_simp
             first
             | (with_reducible refine hK _ _ ?_; clear hK K)
             | (with_reducible apply Exists.intro
                refine ⟨fun x hx => ?_, hK _ _ ?_⟩
                first
                  | (with_reducible exact rfl)
                  | (have y0 := keepc hx c0; have y1 := keepc hx c1; have y2 := keepc hx c2; have y3 := keepc hx d0; have y4 := keepc hx d1; have y5 := keepc hx d2; have y6 := keepc hx e0; have y7 := keepc hx e1; have y8 := keepc hx e2; have y9 := keepc hx g0; have y10 := keepc hx g1; have y11 := keepc hx g2; have y12 := keepc hx h0; have y13 := keepc hx h1; have y14 := keepc hx h2; go_simp; done)
                  | (have y0 := keepc hx c0; have y1 := keepc hx c1; have y2 := keepc hx c2; have y3 := keepc hx d0; have y4 := keepc hx d1; have y5 := keepc hx d2; have y6 := keepc hx e0; have y7 := keepc hx e1; have y8 := keepc hx e2; have y9 := keepc hx g0; have y10 := keepc hx g1; have y11 := keepc hx g2; have y12 := keepc hx h0; have y13 := keepc hx h1; have y14 := keepc hx h2; go_simp; with_reducible exact rfl)
                clear hK K))
          | (first | with_reducible refine sk0 ?_ (fun K hK => ?_) | with_reducible refine sk1 ?_ (fun K hK => ?_) | with_reducible refine sk2 ?_ (fun K hK => ?_) | with_reducible refine sk3 ?_ (fun K hK => ?_) | with_reducible refine sk4 ?_ (fun K hK => ?_)
             rfl
             go_simp
             with_reducible refine hK _ _ ?_
             clear hK K)
        first | with_reducible refine sc0 (fun K hK => ?_) | with_reducible refine sc1 (fun K hK => ?_) | with_reducible refine sc2 (fun K hK => ?_) | with_reducible refine sc3 (fun K hK => ?_) | with_reducible refine sc4 (fun K hK => ?_)
        go_simp
        refine (HWAK.out _ HC6.out).mono ?_
        clear c0 c1 c2 d0 d1 d2 e0 e1 e2 g0 g1 g2 h0 h1 h2
        rintro e v9 ⟨rfl, hb9⟩
        refine ⟨hb9, hK _ _ ?_⟩
        clear hK K
        have HC9 := Lib.hid (HC6.out.trans (hb9.mono (HLE.out _ HC6.out)))
        clear hb9
        repeat
          first
          | (first | with_reducible refine sp0 (fun K hK => ?_) | with_reducible refine sp1 (fun K hK => ?_) | with_reducible refine sp2 (fun K hK => ?_) | with_reducible refine sp3 (fun K hK => ?_) | with_reducible refine sp4 (fun K hK => ?_)
             go_simp
             first
             | (with_reducible refine hK _ _ ?_; clear hK K)
             | (with_reducible apply Exists.intro
                refine ⟨fun x hx => ?_, hK _ _ ?_⟩
                first
                  | (with_reducible exact rfl)
                clear hK K))
          | (first | with_reducible refine sk0 ?_ (fun K hK => ?_) | with_reducible refine sk1 ?_ (fun K hK => ?_) | with_reducible refine sk2 ?_ (fun K hK => ?_) | with_reducible refine sk3 ?_ (fun K hK => ?_) | with_reducible refine sk4 ?_ (fun K hK => ?_)
             rfl
             go_simp
             with_reducible refine hK _ _ ?_
             clear hK K)
        with_reducible refine seq_nil ?_
        go_wp2_with fail
        go_ret
        exact ⟨rfl, HB9.out.tr HC9.out (Nat.le_refl _)⟩
      | false =>
        go_wp2_with fail
        refine (HWU.out _ HY1.out).mono ?_
        clear c0 c1 c2 d0 d1 d2
        rintro e y2 ⟨rfl, hb⟩
        have HY2 := Lib.hid (HY1.out.tr hb (Nat.le_refl _)); clear hb
        obtain ⟨⟨c0, c1, c2⟩, ⟨d0, d1, d2⟩, -⟩ := HCELL.out _ HY2.out
        cases wu with
        | true =>
          obtain rfl : wm = true := Q8.out rfl
          go_wp2_with fail
          clear c0 c1 c2 d0 d1 d2
          have HBd := Lib.hid HY2.out.drew
          obtain ⟨⟨c0, c1, c2⟩, ⟨d0, d1, d2⟩, ⟨e0, e1, e2⟩, ⟨g0, g1, g2⟩, ⟨h0, h1, h2⟩⟩ := HCELL.out _ HBd.out
          refine wp_region_seq [(0, false), (0, false), (0, false), (0, false), (0, false), (0, false), (0, false), (0, true), (0, false), (0, false), (0, false), (0, false), (0, true), (0, false), (0, false), (0, false), (0, false), (0, false), (0, false), (0, true), (0, false), (0, false), (0, false), (0, false), (1, false), (2, false), (0, true), (0, true), (0, true), (0, false), (0, false), (0, false), (0, false), (0, true), (0, false), (0, false)] (by kernel_rfl) (by kernel_rfl) (by kernel_rfl) (fun _ _ _ d _ h => by cases d <;> exact h) ?_
          repeat
            first
            | (first | with_reducible refine sp0 (fun K hK => ?_) | with_reducible refine sp1 (fun K hK => ?_) | with_reducible refine sp2 (fun K hK => ?_) | with_reducible refine sp3 (fun K hK => ?_) | with_reducible refine sp4 (fun K hK => ?_)
               go_simp
               first
               | (with_reducible refine hK _ _ ?_; clear hK K)
               | (with_reducible apply Exists.intro
                  refine ⟨fun x hx => ?_, hK _ _ ?_⟩
                  first
                    | (with_reducible exact rfl)
                    | (have y0 := keepc hx c0; have y1 := keepc hx c1; have y2 := keepc hx c2; have y3 := keepc hx d0; have y4 := keepc hx d1; have y5 := keepc hx d2; have y6 := keepc hx e0; have y7 := keepc hx e1; have y8 := keepc hx e2; have y9 := keepc hx g0; have y10 := keepc hx g1; have y11 := keepc hx g2; have y12 := keepc hx h0; have y13 := keepc hx h1; have y14 := keepc hx h2; go_simp; done)
                    | (have y0 := keepc hx c0; have y1 := keepc hx c1; have y2 := keepc hx c2; have y3 := keepc hx d0; have y4 := keepc hx d1; have y5 := keepc hx d2; have y6 := keepc hx e0; have y7 := keepc hx e1; have y8 := keepc hx e2; have y9 := keepc hx g0; have y10 := keepc hx g1; have y11 := keepc hx g2; have y12 := keepc hx h0; have y13 := keepc hx h1; have y14 := keepc hx h2; go_simp; with_reducible exact rfl)
                  clear hK K))
            | (first | with_reducible refine sk0 ?_ (fun K hK => ?_) | with_reducible refine sk1 ?_ (fun K hK => ?_) | with_reducible refine sk2 ?_ (fun K hK => ?_) | with_reducible refine sk3 ?_ (fun K hK => ?_) | with_reducible refine sk4 ?_ (fun K hK => ?_)
               rfl
               go_simp
               with_reducible refine hK _ _ ?_
               clear hK K)
          first | with_reducible refine sc0 (fun K hK => ?_) | with_reducible refine sc1 (fun K hK => ?_) | with_reducible refine sc2 (fun K hK => ?_) | with_reducible refine sc3 (fun K hK => ?_) | with_reducible refine sc4 (fun K hK => ?_)
          go_simp
          refine (HSXM.out _ HBd.out).mono ?_
          clear c0 c1 c2 d0 d1 d2 e0 e1 e2 g0 g1 g2 h0 h1 h2
          rintro e v1 ⟨rfl, hb9⟩
          refine ⟨hb9, hK _ _ ?_⟩
          clear hK K
          have HC1 := Lib.hid (HBd.out.trans (hb9.mono (HLE.out _ HBd.out)))
          clear hb9
          obtain ⟨⟨c0, c1, c2⟩, ⟨d0, d1, d2⟩, ⟨e0, e1, e2⟩, ⟨g0, g1, g2⟩, ⟨h0, h1, h2⟩⟩ := HCELL.out v1 HC1.out
          repeat
            first
            | (first | with_reducible refine sp0 (fun K hK => ?_) | with_reducible refine sp1 (fun K hK => ?_) | with_reducible refine sp2 (fun K hK => ?_) | with_reducible refine sp3 (fun K hK => ?_) | with_reducible refine sp4 (fun K hK => ?_)
               go_simp
               first
               | (with_reducible refine hK _ _ ?_; clear hK K)
               | (with_reducible apply Exists.intro
                  refine ⟨fun x hx => ?_, hK _ _ ?_⟩
                  first
                    | (with_reducible exact rfl)
                    | (have y0 := keepc hx c0; have y1 := keepc hx c1; have y2 := keepc hx c2; have y3 := keepc hx d0; have y4 := keepc hx d1; have y5 := keepc hx d2; have y6 := keepc hx e0; have y7 := keepc hx e1; have y8 := keepc hx e2; have y9 := keepc hx g0; have y10 := keepc hx g1; have y11 := keepc hx g2; have y12 := keepc hx h0; have y13 := keepc hx h1; have y14 := keepc hx h2; go_simp; done)
                    | (have y0 := keepc hx c0; have y1 := keepc hx c1; have y2 := keepc hx c2; have y3 := keepc hx d0; have y4 := keepc hx d1; have y5 := keepc hx d2; have y6 := keepc hx e0; have y7 := keepc hx e1; have y8 := keepc hx e2; have y9 := keepc hx g0; have y10 := keepc hx g1; have y11 := keepc hx g2; have y12 := keepc hx h0; have y13 := keepc hx h1; have y14 := keepc hx h2; go_simp; with_reducible exact rfl)
                  clear hK K))
            | (first | with_reducible refine sk0 ?_ (fun K hK => ?_) | with_reducible refine sk1 ?_ (fun K hK => ?_) | with_reducible refine sk2 ?_ (fun K hK => ?_) | with_reducible refine sk3 ?_ (fun K hK => ?_) | with_reducible refine sk4 ?_ (fun K hK => ?_)
               rfl
               go_simp
               with_reducible refine hK _ _ ?_
               clear hK K)
          first | with_reducible refine sc0 (fun K hK => ?_) | with_reducible refine sc1 (fun K hK => ?_) | with_reducible refine sc2 (fun K hK => ?_) | with_reducible refine sc3 (fun K hK => ?_) | with_reducible refine sc4 (fun K hK => ?_)
          go_simp
          refine (HSYM.out _ HC1.out).mono ?_
          clear c0 c1 c2 d0 d1 d2 e0 e1 e2 g0 g1 g2 h0 h1 h2
          rintro e v2 ⟨rfl, hb9⟩
          refine ⟨hb9, hK _ _ ?_⟩
          clear hK K
          have HC2 := Lib.hid (HC1.out.trans (hb9.mono (HLE.out _ HC1.out)))
          clear hb9
          obtain ⟨⟨c0, c1, c2⟩, ⟨d0, d1, d2⟩, ⟨e0, e1, e2⟩, ⟨g0, g1, g2⟩, ⟨h0, h1, h2⟩⟩ := HCELL.out v2 HC2.out
          repeat
            first
            | (first | with_reducible refine sp0 (fun K hK => ?_) | with_reducible refine sp1 (fun K hK => ?_) | with_reducible refine sp2 (fun K hK => ?_) | with_reducible refine sp3 (fun K hK => ?_) | with_reducible refine sp4 (fun K hK => ?_)
               go_simp
               first
               | (with_reducible refine hK _ _ ?_; clear hK K)
               | (with_reducible apply Exists.intro
                  refine ⟨fun x hx => ?_, hK _ _ ?_⟩
                  first
                    | (with_reducible exact rfl)
                    | (have y0 := keepc hx c0; have y1 := keepc hx c1; have y2 := keepc hx c2; have y3 := keepc hx d0; have y4 := keepc hx d1; have y5 := keepc hx d2; have y6 := keepc hx e0; have y7 := keepc hx e1; have y8 := keepc hx e2; have y9 := keepc hx g0; have y10 := keepc hx g1; have y11 := keepc hx g2; have y12 := keepc hx h0; have y13 := keepc hx h1; have y14 := keepc hx h2; go_simp; done)
                    | (have y0 := keepc hx c0; have y1 := keepc hx c1; have y2 := keepc hx c2; have y3 := keepc hx d0; have y4 := keepc hx d1; have y5 := keepc hx d2; have y6 := keepc hx e0; have y7 := keepc hx e1; have y8 := keepc hx e2; have y9 := keepc hx g0; have y10 := keepc hx g1; have y11 := keepc hx g2; have y12 := keepc hx h0; have y13 := keepc hx h1; have y14 := keepc hx h2; go_simp; with_reducible exact rfl)
                  clear hK K))
            | (first | with_reducible refine sk0 ?_ (fun K hK => ?_) | with_reducible refine sk1 ?_ (fun K hK => ?_) | with_reducible refine sk2 ?_ (fun K hK => ?_) | with_reducible refine sk3 ?_ (fun K hK => ?_) | with_reducible refine sk4 ?_ (fun K hK => ?_)
               rfl
               go_simp
               with_reducible refine hK _ _ ?_
               clear hK K)
          first | with_reducible refine sc0 (fun K hK => ?_) | with_reducible refine sc1 (fun K hK => ?_) | with_reducible refine sc2 (fun K hK => ?_) | with_reducible refine sc3 (fun K hK => ?_) | with_reducible refine sc4 (fun K hK => ?_)
          go_simp
          refine (HWM.out _ HC2.out).mono ?_
          clear c0 c1 c2 d0 d1 d2 e0 e1 e2 g0 g1 g2 h0 h1 h2
          rintro e v3 ⟨rfl, hb9⟩
          refine ⟨hb9, hK _ _ ?_⟩
          clear hK K
          have HC3 := Lib.hid (HC2.out.trans (hb9.mono (HLE.out _ HC2.out)))
          clear hb9
          obtain ⟨⟨c0, c1, c2⟩, ⟨d0, d1, d2⟩, ⟨e0, e1, e2⟩, ⟨g0, g1, g2⟩, ⟨h0, h1, h2⟩⟩ := HCELL.out v3 HC3.out
          repeat
            first
            | (first | with_reducible refine sp0 (fun K hK => ?_) | with_reducible refine sp1 (fun K hK => ?_) | with_reducible refine sp2 (fun K hK => ?_) | with_reducible refine sp3 (fun K hK => ?_) | with_reducible refine sp4 (fun K hK => ?_)
               go_simp
               first
               | (with_reducible refine hK _ _ ?_; clear hK K)
               | (with_reducible apply Exists.intro
                  refine ⟨fun x hx => ?_, hK _ _ ?_⟩
                  first
                    | (with_reducible exact rfl)
                    | (have y0 := keepc hx c0; have y1 := keepc hx c1; have y2 := keepc hx c2; have y3 := keepc hx d0; have y4 := keepc hx d1; have y5 := keepc hx d2; have y6 := keepc hx e0; have y7 := keepc hx e1; have y8 := keepc hx e2; have y9 := keepc hx g0; have y10 := keepc hx g1; have y11 := keepc hx g2; have y12 := keepc hx h0; have y13 := keepc hx h1; have y14 := keepc hx h2; go_simp; done)
                    | (have y0 := keepc hx c0; have y1 := keepc hx c1; have y2 := keepc hx c2; have y3 := keepc hx d0; have y4 := keepc hx d1; have y5 := keepc hx d2; have y6 := keepc hx e0; have y7 := keepc hx e1; have y8 := keepc hx e2; have y9 := keepc hx g0; have y10 := keepc hx g1; have y11 := keepc hx g2; have y12 := keepc hx h0; have y13 := keepc hx h1; have y14 := keepc hx h2; go_simp; with_reducible exact rfl)
                  clear hK K))
            | (first | with_reducible refine sk0 ?_ (fun K hK => ?_) | with_reducible refine sk1 ?_ (fun K hK => ?_) | with_reducible refine sk2 ?_ (fun K hK => ?_) | with_reducible refine sk3 ?_ (fun K hK => ?_) | with_reducible refine sk4 ?_ (fun K hK => ?_)
               rfl
               go_simp
               with_reducible refine hK _ _ ?_
               clear hK K)
          first | with_reducible refine sc0 (fun K hK => ?_) | with_reducible refine sc1 (fun K hK => ?_) | with_reducible refine sc2 (fun K hK => ?_) | with_reducible refine sc3 (fun K hK => ?_) | with_reducible refine sc4 (fun K hK => ?_)
          go_simp
          refine (HZM.out _ HC3.out).mono ?_
          clear c0 c1 c2 d0 d1 d2 e0 e1 e2 g0 g1 g2 h0 h1 h2
          rintro e v4 ⟨rfl, hb9⟩
          refine ⟨hb9, hK _ _ ?_⟩
          clear hK K
          have HC4 := Lib.hid (HC3.out.trans (hb9.mono (HLE.out _ HC3.out)))
          clear hb9
          obtain ⟨⟨c0, c1, c2⟩, ⟨d0, d1, d2⟩, ⟨e0, e1, e2⟩, ⟨g0, g1, g2⟩, ⟨h0, h1, h2⟩⟩ := HCELL.out v4 HC4.out
          repeat
            first
            | (first | with_reducible refine sp0 (fun K hK => ?_) | with_reducible refine sp1 (fun K hK => ?_) | with_reducible refine sp2 (fun K hK => ?_) | with_reducible refine sp3 (fun K hK => ?_) | with_reducible refine sp4 (fun K hK => ?_)
               go_simp
               first
               | (with_reducible refine hK _ _ ?_; clear hK K)
               | (with_reducible apply Exists.intro
                  refine ⟨fun x hx => ?_, hK _ _ ?_⟩
                  first
                    | (with_reducible exact rfl)
                    | (have y0 := keepc hx c0; have y1 := keepc hx c1; have y2 := keepc hx c2; have y3 := keepc hx d0; have y4 := keepc hx d1; have y5 := keepc hx d2; have y6 := keepc hx e0; have y7 := keepc hx e1; have y8 := keepc hx e2; have y9 := keepc hx g0; have y10 := keepc hx g1; have y11 := keepc hx g2; have y12 := keepc hx h0; have y13 := keepc hx h1; have y14 := keepc hx h2; go_simp; done)
                    | (have y0 := keepc hx c0; have y1 := keepc hx c1; have y2 := keepc hx c2; have y3 := keepc hx d0; have y4 := keepc hx d1; have y5 := keepc hx d2; have y6 := keepc hx e0; have y7 := keepc hx e1; have y8 := keepc hx e2; have y9 := keepc hx g0; have y10 := keepc hx g1; have y11 := keepc hx g2; have y12 := keepc hx h0; have y13 := keepc hx h1; have y14 := keepc hx h2; go_simp; with_reducible exact rfl)
                  clear hK K))
            | (first | with_reducible refine sk0 ?_ (fun K hK => ?_) | with_reducible refine sk1 ?_ (fun K hK => ?_) | with_reducible refine sk2 ?_ (fun K hK => ?_) | with_reducible refine sk3 ?_ (fun K hK => ?_) | with_reducible refine sk4 ?_ (fun K hK => ?_)
               rfl
               go_simp
               with_reducible refine hK _ _ ?_
               clear hK K)
          first | with_reducible refine sc0 (fun K hK => ?_) | with_reducible refine sc1 (fun K hK => ?_) | with_reducible refine sc2 (fun K hK => ?_) | with_reducible refine sc3 (fun K hK => ?_) | with_reducible refine sc4 (fun K hK => ?_)
          go_simp
          refine (HZT.out _ HC4.out).mono ?_
          clear c0 c1 c2 d0 d1 d2 e0 e1 e2 g0 g1 g2 h0 h1 h2
          rintro e v5 ⟨rfl, hb9⟩
          refine ⟨hb9, hK _ _ ?_⟩
          clear hK K
          have HC5 := Lib.hid (HC4.out.trans (hb9.mono (HLE.out _ HC4.out)))
          clear hb9
          obtain ⟨⟨c0, c1, c2⟩, ⟨d0, d1, d2⟩, ⟨e0, e1, e2⟩, ⟨g0, g1, g2⟩, ⟨h0, h1, h2⟩⟩ := HCELL.out v5 HC5.out
          repeat
            first
            | (first | with_reducible refine sp0 (fun K hK => ?_) | with_reducible refine sp1 (fun K hK => ?_) | with_reducible refine sp2 (fun K hK => ?_) | with_reducible refine sp3 (fun K hK => ?_) | with_reducible refine sp4 (fun K hK => ?_)
               go_simp
               first
               | (with_reducible refine hK _ _ ?_; clear hK K)
               | (with_reducible apply Exists.intro
                  refine ⟨fun x hx => ?_, hK _ _ ?_⟩
                  first
                    | (with_reducible exact rfl)
                    | (have y0 := keepc hx c0; have y1 := keepc hx c1; have y2 := keepc hx c2; have y3 := keepc hx d0; have y4 := keepc hx d1; have y5 := keepc hx d2; have y6 := keepc hx e0; have y7 := keepc hx e1; have y8 := keepc hx e2; have y9 := keepc hx g0; have y10 := keepc hx g1; have y11 := keepc hx g2; have y12 := keepc hx h0; have y13 := keepc hx h1; have y14 := keepc hx h2; go_simp; done)
                    | (have y0 := keepc hx c0; have y1 := keepc hx c1; have y2 := keepc hx c2; have y3 := keepc hx d0; have y4 := keepc hx d1; have y5 := keepc hx d2; have y6 := keepc hx e0; have y7 := keepc hx e1; have y8 := keepc hx e2; have y9 := keepc hx g0; have y10 := keepc hx g1; have y11 := keepc hx g2; have y12 := keepc hx h0; have y13 := keepc hx h1; have y14 := keepc hx h2; go_simp; with_reducible exact rfl)
                  clear hK K))
            | (first | with_reducible refine sk0 ?_ (fun K hK => ?_) | with_reducible refine sk1 ?_ (fun K hK => ?_) | with_reducible refine sk2 ?_ (fun K hK => ?_) | with_reducible refine sk3 ?_ (fun K hK => ?_) | with_reducible refine sk4 ?_ (fun K hK => ?_)
               rfl
               go_simp
               with_reducible refine hK _ _ ?_
               clear hK K)
          first | with_reducible refine sc0 (fun K hK => ?_) | with_reducible refine sc1 (fun K hK => ?_) | with_reducible refine sc2 (fun K hK => ?_) | with_reducible refine sc3 (fun K hK => ?_) | with_reducible refine sc4 (fun K hK => ?_)
          go_simp
          refine (HZU.out _ HC5.out).mono ?_
          clear c0 c1 c2 d0 d1 d2 e0 e1 e2 g0 g1 g2 h0 h1 h2
          rintro e v6 ⟨rfl, hb9⟩
          refine ⟨hb9, hK _ _ ?_⟩
          clear hK K
          have HC6 := Lib.hid (HC5.out.trans (hb9.mono (HLE.out _ HC5.out)))
          clear hb9
          obtain ⟨⟨c0, c1, c2⟩, ⟨d0, d1, d2⟩, ⟨e0, e1, e2⟩, ⟨g0, g1, g2⟩, ⟨h0, h1, h2⟩⟩ := HCELL.out v6 HC6.out
          repeat
            first
            | (first | with_reducible refine sp0 (fun K hK => ?_) | with_reducible refine sp1 (fun K hK => ?_) | with_reducible refine sp2 (fun K hK => ?_) | with_reducible refine sp3 (fun K hK => ?_) | with_reducible refine sp4 (fun K hK => ?_)
               go_simp
               first
               | (with_reducible refine hK _ _ ?_; clear hK K)
               | (with_reducible apply Exists.intro
                  refine ⟨fun x hx => ?_, hK _ _ ?_⟩
                  first
                    | (with_reducible exact rfl)
                    | (have y0 := keepc hx c0; have y1 := keepc hx c1; have y2 := keepc hx c2; have y3 := keepc hx d0; have y4 := keepc hx d1; have y5 := keepc hx d2; have y6 := keepc hx e0; have y7 := keepc hx e1; have y8 := keepc hx e2; have y9 := keepc hx g0; have y10 := keepc hx g1; have y11 := keepc hx g2; have y12 := keepc hx h0; have y13 := keepc hx h1; have y14 := keepc hx h2; go_simp; done)
                    | (have y0 := keepc hx c0; have y1 := keepc hx c1; have y2 := keepc hx c2; have y3 := keepc hx d0; have y4 := keepc hx d1; have y5 := keepc hx d2; have y6 := keepc hx e0; have y7 := keepc hx e1; have y8 := keepc hx e2; have y9 := keepc hx g0; have y10 := keepc hx g1; have y11 := keepc hx g2; have y12 := keepc hx h0; have y13 := keepc hx h1; have y14 := keepc hx h2; go_simp; with_reducible exact rfl)
                  clear hK K))
            | (first | with_reducible refine sk0 ?_ (fun K hK => ?_) | with_reducible refine sk1 ?_ (fun K hK => ?_) | with_reducible refine sk2 ?_ (fun K hK => ?_) | with_reducible refine sk3 ?_ (fun K hK => ?_) | with_reducible refine sk4 ?_ (fun K hK => ?_)
               rfl
               go_simp
               with_reducible refine hK _ _ ?_
               clear hK K)
          first | with_reducible refine sc0 (fun K hK => ?_) | with_reducible refine sc1 (fun K hK => ?_) | with_reducible refine sc2 (fun K hK => ?_) | with_reducible refine sc3 (fun K hK => ?_) | with_reducible refine sc4 (fun K hK => ?_)
          go_simp
          refine (HWAK.out _ HC6.out).mono ?_
          clear c0 c1 c2 d0 d1 d2 e0 e1 e2 g0 g1 g2 h0 h1 h2
          rintro e v9 ⟨rfl, hb9⟩
          refine ⟨hb9, hK _ _ ?_⟩
          clear hK K
          have HC9 := Lib.hid (HC6.out.trans (hb9.mono (HLE.out _ HC6.out)))
          clear hb9
          repeat
            first
            | (first | with_reducible refine sp0 (fun K hK => ?_) | with_reducible refine sp1 (fun K hK => ?_) | with_reducible refine sp2 (fun K hK => ?_) | with_reducible refine sp3 (fun K hK => ?_) | with_reducible refine sp4 (fun K hK => ?_)
               go_simp
               first
               | (with_reducible refine hK _ _ ?_; clear hK K)
               | (with_reducible apply Exists.intro
                  refine ⟨fun x hx => ?_, hK _ _ ?_⟩
                  first
                    | (with_reducible exact rfl)
                  clear hK K))
            | (first | with_reducible refine sk0 ?_ (fun K hK => ?_) | with_reducible refine sk1 ?_ (fun K hK => ?_) | with_reducible refine sk2 ?_ (fun K hK => ?_) | with_reducible refine sk3 ?_ (fun K hK => ?_) | with_reducible refine sk4 ?_ (fun K hK => ?_)
               rfl
               go_simp
               with_reducible refine hK _ _ ?_
               clear hK K)
          with_reducible refine seq_nil ?_
          go_wp2_with fail
          go_ret
          exact ⟨rfl, HB9.out.tr HC9.out (Nat.le_refl _)⟩
        | false =>
          go_wp2_with fail
          clear c0 c1 c2 d0 d1 d2
          have HBd := Lib.hid HY2.out.drew
          obtain ⟨⟨c0, c1, c2⟩, ⟨d0, d1, d2⟩, ⟨e0, e1, e2⟩, ⟨g0, g1, g2⟩, ⟨h0, h1, h2⟩⟩ := HCELL.out _ HBd.out
          refine wp_region_seq [(0, false), (0, false), (0, false), (0, false), (0, false), (0, false), (0, false), (0, true), (0, false), (0, false), (0, false), (0, false), (0, true), (0, false), (0, false), (0, false), (0, false), (0, false), (0, false), (0, true), (0, false), (0, false), (0, false), (0, false), (1, false), (2, false), (0, true), (0, true), (0, true), (0, false), (0, false), (0, false), (0, false), (0, true), (0, false), (0, false)] (by kernel_rfl) (by kernel_rfl) (by kernel_rfl) (fun _ _ _ d _ h => by cases d <;> exact h) ?_
          repeat
            first
            | (first | with_reducible refine sp0 (fun K hK => ?_) | with_reducible refine sp1 (fun K hK => ?_) | with_reducible refine sp2 (fun K hK => ?_) | with_reducible refine sp3 (fun K hK => ?_) | with_reducible refine sp4 (fun K hK => ?_)
               go_simp
               first
               | (with_reducible refine hK _ _ ?_; clear hK K)
               | (with_reducible apply Exists.intro
                  refine ⟨fun x hx => ?_, hK _ _ ?_⟩
                  first
                    | (with_reducible exact rfl)
                    | (have y0 := keepc hx c0; have y1 := keepc hx c1; have y2 := keepc hx c2; have y3 := keepc hx d0; have y4 := keepc hx d1; have y5 := keepc hx d2; have y6 := keepc hx e0; have y7 := keepc hx e1; have y8 := keepc hx e2; have y9 := keepc hx g0; have y10 := keepc hx g1; have y11 := keepc hx g2; have y12 := keepc hx h0; have y13 := keepc hx h1; have y14 := keepc hx h2; go_simp; done)
                    | (have y0 := keepc hx c0; have y1 := keepc hx c1; have y2 := keepc hx c2; have y3 := keepc hx d0; have y4 := keepc hx d1; have y5 := keepc hx d2; have y6 := keepc hx e0; have y7 := keepc hx e1; have y8 := keepc hx e2; have y9 := keepc hx g0; have y10 := keepc hx g1; have y11 := keepc hx g2; have y12 := keepc hx h0; have y13 := keepc hx h1; have y14 := keepc hx h2; go_simp; with_reducible exact rfl)
                  clear hK K))
            | (first | with_reducible refine sk0 ?_ (fun K hK => ?_) | with_reducible refine sk1 ?_ (fun K hK => ?_) | with_reducible refine sk2 ?_ (fun K hK => ?_) | with_reducible refine sk3 ?_ (fun K hK => ?_) | with_reducible refine sk4 ?_ (fun K hK => ?_)
               rfl
               go_simp
               with_reducible refine hK _ _ ?_
               clear hK K)
          first | with_reducible refine sc0 (fun K hK => ?_) | with_reducible refine sc1 (fun K hK => ?_) | with_reducible refine sc2 (fun K hK => ?_) | with_reducible refine sc3 (fun K hK => ?_) | with_reducible refine sc4 (fun K hK => ?_)
          go_simp
          refine (HSXM.out _ HBd.out).mono ?_
          clear c0 c1 c2 d0 d1 d2 e0 e1 e2 g0 g1 g2 h0 h1 h2
          rintro e v1 ⟨rfl, hb9⟩
          refine ⟨hb9, hK _ _ ?_⟩
          clear hK K
          have HC1 := Lib.hid (HBd.out.trans (hb9.mono (HLE.out _ HBd.out)))
          clear hb9
          obtain ⟨⟨c0, c1, c2⟩, ⟨d0, d1, d2⟩, ⟨e0, e1, e2⟩, ⟨g0, g1, g2⟩, ⟨h0, h1, h2⟩⟩ := HCELL.out v1 HC1.out
          repeat
            first
            | (first | with_reducible refine sp0 (fun K hK => ?_) | with_reducible refine sp1 (fun K hK => ?_) | with_reducible refine sp2 (fun K hK => ?_) | with_reducible refine sp3 (fun K hK => ?_) | with_reducible refine sp4 (fun K hK => ?_)
               go_simp
               first
               | (with_reducible refine hK _ _ ?_; clear hK K)
               | (with_reducible apply Exists.intro
                  refine ⟨fun x hx => ?_, hK _ _ ?_⟩
                  first
                    | (with_reducible exact rfl)
                    | (have y0 := keepc hx c0; have y1 := keepc hx c1; have y2 := keepc hx c2; have y3 := keepc hx d0; have y4 := keepc hx d1; have y5 := keepc hx d2; have y6 := keepc hx e0; have y7 := keepc hx e1; have y8 := keepc hx e2; have y9 := keepc hx g0; have y10 := keepc hx g1; have y11 := keepc hx g2; have y12 := keepc hx h0; have y13 := keepc hx h1; have y14 := keepc hx h2; go_simp; done)
                    | (have y0 := keepc hx c0; have y1 := keepc hx c1; have y2 := keepc hx c2; have y3 := keepc hx d0; have y4 := keepc hx d1; have y5 := keepc hx d2; have y6 := keepc hx e0; have y7 := keepc hx e1; have y8 := keepc hx e2; have y9 := keepc hx g0; have y10 := keepc hx g1; have y11 := keepc hx g2; have y12 := keepc hx h0; have y13 := keepc hx h1; have y14 := keepc hx h2; go_simp; with_reducible exact rfl)
                  clear hK K))
            | (first | with_reducible refine sk0 ?_ (fun K hK => ?_) | with_reducible refine sk1 ?_ (fun K hK => ?_) | with_reducible refine sk2 ?_ (fun K hK => ?_) | with_reducible refine sk3 ?_ (fun K hK => ?_) | with_reducible refine sk4 ?_ (fun K hK => ?_)
               rfl
               go_simp
               with_reducible refine hK _ _ ?_
               clear hK K)
          first | with_reducible refine sc0 (fun K hK => ?_) | with_reducible refine sc1 (fun K hK => ?_) | with_reducible refine sc2 (fun K hK => ?_) | with_reducible refine sc3 (fun K hK => ?_) | with_reducible refine sc4 (fun K hK => ?_)
          go_simp
          refine (HSYM.out _ HC1.out).mono ?_
          clear c0 c1 c2 d0 d1 d2 e0 e1 e2 g0 g1 g2 h0 h1 h2
          rintro e v2 ⟨rfl, hb9⟩
          refine ⟨hb9, hK _ _ ?_⟩
          clear hK K
          have HC2 := Lib.hid (HC1.out.trans (hb9.mono (HLE.out _ HC1.out)))
          clear hb9
          obtain ⟨⟨c0, c1, c2⟩, ⟨d0, d1, d2⟩, ⟨e0, e1, e2⟩, ⟨g0, g1, g2⟩, ⟨h0, h1, h2⟩⟩ := HCELL.out v2 HC2.out
          repeat
            first
            | (first | with_reducible refine sp0 (fun K hK => ?_) | with_reducible refine sp1 (fun K hK => ?_) | with_reducible refine sp2 (fun K hK => ?_) | with_reducible refine sp3 (fun K hK => ?_) | with_reducible refine sp4 (fun K hK => ?_)
               go_simp
               first
               | (with_reducible refine hK _ _ ?_; clear hK K)
               | (with_reducible apply Exists.intro
                  refine ⟨fun x hx => ?_, hK _ _ ?_⟩
                  first
                    | (with_reducible exact rfl)
                    | (have y0 := keepc hx c0; have y1 := keepc hx c1; have y2 := keepc hx c2; have y3 := keepc hx d0; have y4 := keepc hx d1; have y5 := keepc hx d2; have y6 := keepc hx e0; have y7 := keepc hx e1; have y8 := keepc hx e2; have y9 := keepc hx g0; have y10 := keepc hx g1; have y11 := keepc hx g2; have y12 := keepc hx h0; have y13 := keepc hx h1; have y14 := keepc hx h2; go_simp; done)
                    | (have y0 := keepc hx c0; have y1 := keepc hx c1; have y2 := keepc hx c2; have y3 := keepc hx d0; have y4 := keepc hx d1; have y5 := keepc hx d2; have y6 := keepc hx e0; have y7 := keepc hx e1; have y8 := keepc hx e2; have y9 := keepc hx g0; have y10 := keepc hx g1; have y11 := keepc hx g2; have y12 := keepc hx h0; have y13 := keepc hx h1; have y14 := keepc hx h2; go_simp; with_reducible exact rfl)
                  clear hK K))
            | (first | with_reducible refine sk0 ?_ (fun K hK => ?_) | with_reducible refine sk1 ?_ (fun K hK => ?_) | with_reducible refine sk2 ?_ (fun K hK => ?_) | with_reducible refine sk3 ?_ (fun K hK => ?_) | with_reducible refine sk4 ?_ (fun K hK => ?_)
               rfl
               go_simp
               with_reducible refine hK _ _ ?_
               clear hK K)
          first | with_reducible refine sc0 (fun K hK => ?_) | with_reducible refine sc1 (fun K hK => ?_) | with_reducible refine sc2 (fun K hK => ?_) | with_reducible refine sc3 (fun K hK => ?_) | with_reducible refine sc4 (fun K hK => ?_)
          go_simp
          refine (HZM.out _ HC2.out).mono ?_
          clear c0 c1 c2 d0 d1 d2 e0 e1 e2 g0 g1 g2 h0 h1 h2
          rintro e v3 ⟨rfl, hb9⟩
          refine ⟨hb9, hK _ _ ?_⟩
          clear hK K
          have HC3 := Lib.hid (HC2.out.trans (hb9.mono (HLE.out _ HC2.out)))
          clear hb9
          obtain ⟨⟨c0, c1, c2⟩, ⟨d0, d1, d2⟩, ⟨e0, e1, e2⟩, ⟨g0, g1, g2⟩, ⟨h0, h1, h2⟩⟩ := HCELL.out v3 HC3.out
          repeat
            first
            | (first | with_reducible refine sp0 (fun K hK => ?_) | with_reducible refine sp1 (fun K hK => ?_) | with_reducible refine sp2 (fun K hK => ?_) | with_reducible refine sp3 (fun K hK => ?_) | with_reducible refine sp4 (fun K hK => ?_)
               go_simp
               first
               | (with_reducible refine hK _ _ ?_; clear hK K)
               | (with_reducible apply Exists.intro
                  refine ⟨fun x hx => ?_, hK _ _ ?_⟩
                  first
                    | (with_reducible exact rfl)
                    | (have y0 := keepc hx c0; have y1 := keepc hx c1; have y2 := keepc hx c2; have y3 := keepc hx d0; have y4 := keepc hx d1; have y5 := keepc hx d2; have y6 := keepc hx e0; have y7 := keepc hx e1; have y8 := keepc hx e2; have y9 := keepc hx g0; have y10 := keepc hx g1; have y11 := keepc hx g2; have y12 := keepc hx h0; have y13 := keepc hx h1; have y14 := keepc hx h2; go_simp; done)
                    | (have y0 := keepc hx c0; have y1 := keepc hx c1; have y2 := keepc hx c2; have y3 := keepc hx d0; have y4 := keepc hx d1; have y5 := keepc hx d2; have y6 := keepc hx e0; have y7 := keepc hx e1; have y8 := keepc hx e2; have y9 := keepc hx g0; have y10 := keepc hx g1; have y11 := keepc hx g2; have y12 := keepc hx h0; have y13 := keepc hx h1; have y14 := keepc hx h2; go_simp; with_reducible exact rfl)
                  clear hK K))
            | (first | with_reducible refine sk0 ?_ (fun K hK => ?_) | with_reducible refine sk1 ?_ (fun K hK => ?_) | with_reducible refine sk2 ?_ (fun K hK => ?_) | with_reducible refine sk3 ?_ (fun K hK => ?_) | with_reducible refine sk4 ?_ (fun K hK => ?_)
               rfl
               go_simp
               with_reducible refine hK _ _ ?_
               clear hK K)
          first | with_reducible refine sc0 (fun K hK => ?_) | with_reducible refine sc1 (fun K hK => ?_) | with_reducible refine sc2 (fun K hK => ?_) | with_reducible refine sc3 (fun K hK => ?_) | with_reducible refine sc4 (fun K hK => ?_)
          go_simp
          refine (HZT.out _ HC3.out).mono ?_
          clear c0 c1 c2 d0 d1 d2 e0 e1 e2 g0 g1 g2 h0 h1 h2
          rintro e v4 ⟨rfl, hb9⟩
          refine ⟨hb9, hK _ _ ?_⟩
          clear hK K
          have HC4 := Lib.hid (HC3.out.trans (hb9.mono (HLE.out _ HC3.out)))
          clear hb9
          obtain ⟨⟨c0, c1, c2⟩, ⟨d0, d1, d2⟩, ⟨e0, e1, e2⟩, ⟨g0, g1, g2⟩, ⟨h0, h1, h2⟩⟩ := HCELL.out v4 HC4.out
          repeat
            first
            | (first | with_reducible refine sp0 (fun K hK => ?_) | with_reducible refine sp1 (fun K hK => ?_) | with_reducible refine sp2 (fun K hK => ?_) | with_reducible refine sp3 (fun K hK => ?_) | with_reducible refine sp4 (fun K hK => ?_)
               go_simp
               first
               | (with_reducible refine hK _ _ ?_; clear hK K)
               | (with_reducible apply Exists.intro
                  refine ⟨fun x hx => ?_, hK _ _ ?_⟩
                  first
                    | (with_reducible exact rfl)
                    | (have y0 := keepc hx c0; have y1 := keepc hx c1; have y2 := keepc hx c2; have y3 := keepc hx d0; have y4 := keepc hx d1; have y5 := keepc hx d2; have y6 := keepc hx e0; have y7 := keepc hx e1; have y8 := keepc hx e2; have y9 := keepc hx g0; have y10 := keepc hx g1; have y11 := keepc hx g2; have y12 := keepc hx h0; have y13 := keepc hx h1; have y14 := keepc hx h2; go_simp; done)
                    | (have y0 := keepc hx c0; have y1 := keepc hx c1; have y2 := keepc hx c2; have y3 := keepc hx d0; have y4 := keepc hx d1; have y5 := keepc hx d2; have y6 := keepc hx e0; have y7 := keepc hx e1; have y8 := keepc hx e2; have y9 := keepc hx g0; have y10 := keepc hx g1; have y11 := keepc hx g2; have y12 := keepc hx h0; have y13 := keepc hx h1; have y14 := keepc hx h2; go_simp; with_reducible exact rfl)
                  clear hK K))
            | (first | with_reducible refine sk0 ?_ (fun K hK => ?_) | with_reducible refine sk1 ?_ (fun K hK => ?_) | with_reducible refine sk2 ?_ (fun K hK => ?_) | with_reducible refine sk3 ?_ (fun K hK => ?_) | with_reducible refine sk4 ?_ (fun K hK => ?_)
               rfl
               go_simp
               with_reducible refine hK _ _ ?_
               clear hK K)
          first | with_reducible refine sc0 (fun K hK => ?_) | with_reducible refine sc1 (fun K hK => ?_) | with_reducible refine sc2 (fun K hK => ?_) | with_reducible refine sc3 (fun K hK => ?_) | with_reducible refine sc4 (fun K hK => ?_)
          go_simp
          refine (HZU.out _ HC4.out).mono ?_
          clear c0 c1 c2 d0 d1 d2 e0 e1 e2 g0 g1 g2 h0 h1 h2
          rintro e v5 ⟨rfl, hb9⟩
          refine ⟨hb9, hK _ _ ?_⟩
          clear hK K
          have HC5 := Lib.hid (HC4.out.trans (hb9.mono (HLE.out _ HC4.out)))
          clear hb9
          obtain ⟨⟨c0, c1, c2⟩, ⟨d0, d1, d2⟩, ⟨e0, e1, e2⟩, ⟨g0, g1, g2⟩, ⟨h0, h1, h2⟩⟩ := HCELL.out v5 HC5.out
          repeat
            first
            | (first | with_reducible refine sp0 (fun K hK => ?_) | with_reducible refine sp1 (fun K hK => ?_) | with_reducible refine sp2 (fun K hK => ?_) | with_reducible refine sp3 (fun K hK => ?_) | with_reducible refine sp4 (fun K hK => ?_)
               go_simp
               first
               | (with_reducible refine hK _ _ ?_; clear hK K)
               | (with_reducible apply Exists.intro
                  refine ⟨fun x hx => ?_, hK _ _ ?_⟩
                  first
                    | (with_reducible exact rfl)
                    | (have y0 := keepc hx c0; have y1 := keepc hx c1; have y2 := keepc hx c2; have y3 := keepc hx d0; have y4 := keepc hx d1; have y5 := keepc hx d2; have y6 := keepc hx e0; have y7 := keepc hx e1; have y8 := keepc hx e2; have y9 := keepc hx g0; have y10 := keepc hx g1; have y11 := keepc hx g2; have y12 := keepc hx h0; have y13 := keepc hx h1; have y14 := keepc hx h2; go_simp; done)
                    | (have y0 := keepc hx c0; have y1 := keepc hx c1; have y2 := keepc hx c2; have y3 := keepc hx d0; have y4 := keepc hx d1; have y5 := keepc hx d2; have y6 := keepc hx e0; have y7 := keepc hx e1; have y8 := keepc hx e2; have y9 := keepc hx g0; have y10 := keepc hx g1; have y11 := keepc hx g2; have y12 := keepc hx h0; have y13 := keepc hx h1; have y14 := keepc hx h2; go_simp; with_reducible exact rfl)
                  clear hK K))
            | (first | with_reducible refine sk0 ?_ (fun K hK => ?_) | with_reducible refine sk1 ?_ (fun K hK => ?_) | with_reducible refine sk2 ?_ (fun K hK => ?_) | with_reducible refine sk3 ?_ (fun K hK => ?_) | with_reducible refine sk4 ?_ (fun K hK => ?_)
               rfl
               go_simp
               with_reducible refine hK _ _ ?_
               clear hK K)
          first | with_reducible refine sc0 (fun K hK => ?_) | with_reducible refine sc1 (fun K hK => ?_) | with_reducible refine sc2 (fun K hK => ?_) | with_reducible refine sc3 (fun K hK => ?_) | with_reducible refine sc4 (fun K hK => ?_)
          go_simp
          refine (HWAK.out _ HC5.out).mono ?_
          clear c0 c1 c2 d0 d1 d2 e0 e1 e2 g0 g1 g2 h0 h1 h2
          rintro e v9 ⟨rfl, hb9⟩
          refine ⟨hb9, hK _ _ ?_⟩
          clear hK K
          have HC9 := Lib.hid (HC5.out.trans (hb9.mono (HLE.out _ HC5.out)))
          clear hb9
          repeat
            first
            | (first | with_reducible refine sp0 (fun K hK => ?_) | with_reducible refine sp1 (fun K hK => ?_) | with_reducible refine sp2 (fun K hK => ?_) | with_reducible refine sp3 (fun K hK => ?_) | with_reducible refine sp4 (fun K hK => ?_)
               go_simp
               first
               | (with_reducible refine hK _ _ ?_; clear hK K)
               | (with_reducible apply Exists.intro
                  refine ⟨fun x hx => ?_, hK _ _ ?_⟩
                  first
                    | (with_reducible exact rfl)
                  clear hK K))
            | (first | with_reducible refine sk0 ?_ (fun K hK => ?_) | with_reducible refine sk1 ?_ (fun K hK => ?_) | with_reducible refine sk2 ?_ (fun K hK => ?_) | with_reducible refine sk3 ?_ (fun K hK => ?_) | with_reducible refine sk4 ?_ (fun K hK => ?_)
               rfl
               go_simp
               with_reducible refine hK _ _ ?_
               clear hK K)
          with_reducible refine seq_nil ?_
          go_wp2_with fail
          go_ret
          exact ⟨rfl, HB9.out.tr HC9.out (Nat.le_refl _)⟩
end Go.Proofs.Ytopfdggbkckeoaa
