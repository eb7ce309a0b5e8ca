/- The law AgreeNotOn: its walk. -/
import Derived.Test.YtopfdggbkckeoaaAbA
namespace Go.Proofs.Ytopfdggbkckeoaa
open Go Go.RowKit
open Tp (T)

theorem dyn_right : Tp.right (.mk 5 0 []) = true := by simp [Tp.right, Tp.rights, Tp.nodeRight, Tp.arity]
theorem dyn_ok {t : T} (h : Tp.right t = true) : Tp.ok t (.mk 5 0 []) = Tp.without 6 t := by
  unfold Tp.ok
  rw [h, dyn_right, Bool.true_and, Bool.true_and]
  cases t with
  | mk k n l =>
    by_cases hk : k = 5
    · subst hk
      obtain ⟨rfl, rfl⟩ := Tp.right_dyn h
      simp [Tp.agree]
    · simp [Tp.agree, hk]
theorem dyn_meet {t : T} (h : Tp.right t = true) (hw : Tp.without 6 t = true) : Mt t (.mk 5 0 []) = t := by
  unfold Mt
  rw [if_pos (by rw [dyn_ok h, hw])]
  cases t with
  | mk k n l =>
    by_cases hk : k = 5
    · subst hk
      obtain ⟨rfl, rfl⟩ := Tp.right_dyn h
      simp [Tp.meet]
    · simp [Tp.meet, hk]
theorem stat_ok {t u : T} (h : Tp.right t = true) (h' : Tp.right u = true) (s : Tp.without 5 t = true) (s' : Tp.without 5 u = true) : Tp.ok t u = Tp.same t u := by
  unfold Tp.ok; rw [h, h', Bool.true_and, Bool.true_and]; exact Tp.agree_static t u h h' s s'

set_option maxRecDepth 100000 in
set_option maxHeartbeats 4000000 in
theorem lnot_any (t : T) (a : Option Addr) (cap : Nat) (u : T) (b : Option Addr) (cap' : Nat) (w : World) (hty : TyAt (LT w.heap.size) w t a cap) (hty' : TyAt (LT w.heap.size) w u b cap') :
    Calls Try.prog 7 #[tv t a cap, tv u b cap'] w fun e w' => e = .returned (.bool true) ∧ Below w.heap.size w w' := by
  obtain ⟨k0, n0, m0, hv⟩ := TV.mk t
  obtain ⟨k9, n9, m9, hv'⟩ := TV.mk u
  rw [tv_of hv, tv_of hv']
  obtain ⟨W2, hW2⟩ : ∃ W2, (w.alloc (.cells #[.int .i64 k0, .int .i64 n0, .slice a m0 cap] 24)).alloc (.cells #[.int .i64 k9, .int .i64 n9, .slice b m9 cap'] 24) = W2 := ⟨_, rfl⟩
  have hb2 : Below w.heap.size w W2 := by rw [← hW2]; exact ((Below.refl _ _).alloc (Nat.le_refl _) _).alloc (by simp) _
  have hs2 : W2.heap.size = w.heap.size + 2 := by rw [← hW2]; simp
  have bx : BoxT W2 w.heap.size t k0 n0 m0 a cap := ⟨hv, by rw [← hW2]; exact box1 _ _ _ _ _, ty_later hty hb2⟩
  have bu : BoxT W2 (w.heap.size + 1) u k9 n9 m9 b cap' := ⟨hv', by rw [← hW2]; exact box2 _ _ _ _ _, ty_later hty' hb2⟩
  obtain ⟨rr, hrr⟩ : ∃ r, (!decide (600 < Tp.sizes [t, u]) && Tp.rights [t, u]) = r := ⟨_, rfl⟩
  have hri := lright_any [t, u] (some ⟨W2.heap.size, 0, none⟩) 2 _ (by simp) (row_two bx.ty bu.ty hv.1 hv.2.1 hv.2.2 hv'.1 hv'.2.1 hv'.2.2)
  rw [hrr] at hri
  have HRI := Lib.hid hri; have HRR := Lib.hid hrr; have HB2 := Lib.hid hb2; have HS2 := Lib.hid hs2; have HW2 := Lib.hid hW2; have BX := Lib.hid bx; have BU := Lib.hid bu
  clear hri hrr hb2 hs2 hW2 hty hty' hv hv'
  go_enter Try.func7, Try.ntmps7
  go_upto_region 1 with fail
  rw [HW2.out]
  obtain ⟨c0, c1, c2⟩ := bx.cells
  obtain ⟨d0, d1, d2⟩ := bu.cells
  clear bx bu
  go_wp2_with fail
  refine HRI.out.mono ?_
  clear c0 c1 c2 d0 d1 d2
  rintro e w3 ⟨rfl, hb3⟩
  have hb23 : Below W2.heap.size W2 w3 := ((Below.refl _ _).alloc (Nat.le_refl _) _).tr hb3 (Nat.le_refl _)
  have BX3 := Lib.hid (BX.out.later hb23); have BU3 := Lib.hid (BU.out.later hb23); have HB3 := Lib.hid (HB2.out.tr hb23 (Nat.le_refl _))
  clear hb3 hb23
  cases rr with
  | false =>
    go_wp2_with fail
    go_ret
    exact ⟨rfl, HB3.out⟩
  | true =>
    obtain ⟨hrt, hru, hsz⟩ := pair_right HRR.out
    have HST := Lib.hid (show Tp.size t ≤ 10000 by omega); have HSU := Lib.hid (show Tp.size u ≤ 10000 by omega)
    have HRT := Lib.hid hrt; have HRU := Lib.hid hru
    clear hrt hru hsz
    have H5 := Lib.hid (show I64 5 from i64_nat (by decide) (by decide))
    go_wp2_with fail
    refine (leaf_any 5 w3).mono ?_
    rintro e w4 ⟨rfl, hb⟩
    obtain ⟨W5, hW5⟩ : ∃ W5, w4.alloc (.cells #[.int .i64 5, .int .i64 0, .slice none 0 0] 24) = W5 := ⟨_, rfl⟩
    have hb5 : Below w4.heap.size w4 W5 := by rw [← hW5]; exact (Below.refl _ _).alloc (Nat.le_refl _) _
    have hbb := hb.tr hb5 (Nat.le_refl _)
    have BM5 := Lib.hid (show BoxT W5 w4.heap.size (.mk 5 0 []) 5 0 0 none 0 from ⟨⟨rfl, rfl, rfl⟩, by rw [← hW5]; exact World.alloc_heap_new w4 _, leaf_at H5.out⟩)
    have BX5 := Lib.hid (BX3.out.later hbb); have BU5 := Lib.hid (BU3.out.later hbb); have HB5 := Lib.hid (HB3.out.tr hbb (Nat.le_refl _)); have HW5 := Lib.hid hW5
    clear hW5 hb5 hbb hb
    go_upto_region 4 with fail
    rw [HW5.out]
    obtain ⟨c0, c1, c2⟩ := BX5.out.cells
    go_wp2_with fail
    refine (wo_any 6 BX5.out.says BX5.out.ty).mono ?_
    clear c0 c1 c2
    rintro e w6 ⟨rfl, hb⟩
    obtain ⟨cl, hcl⟩ : ∃ b, Tp.without 6 t = b := ⟨_, rfl⟩
    rw [hcl]
    have HCL := Lib.hid hcl
    have BM6 := Lib.hid (BM5.out.later hb); have BX6 := Lib.hid (BX5.out.later hb); have BU6 := Lib.hid (BU5.out.later hb); have HB6 := Lib.hid (HB5.out.tr hb (Nat.le_refl _))
    clear hb hcl
    obtain ⟨c0, c1, c2⟩ := BX6.out.cells
    obtain ⟨e0, e1, e2⟩ := BM6.out.cells
    go_wp2_with fail
    refine (mt_any BX6.out.says BM6.out.says BX6.out.ty BM6.out.ty HST.out (by simp [Tp.size, Tp.sizes])).mono ?_
    clear c0 c1 c2 e0 e1 e2
    rintro e w8 ⟨k3, n3, m3, a3, p3, hv3, rfl, ty3, hb⟩
    rw [dyn_ok HRT.out, HCL.out]
    obtain ⟨W9, hW9⟩ : ∃ W9, w8.alloc (.cells #[.int .i64 k3, .int .i64 n3, .slice a3 m3 p3] 24) = W9 := ⟨_, rfl⟩
    have hb9 : Below w8.heap.size w8 W9 := by rw [← hW9]; exact (Below.refl _ _).alloc (Nat.le_refl _) _
    have hbb := hb.tr hb9 (Nat.le_refl _)
    have bs9 : BoxT W9 w8.heap.size (Mt t (.mk 5 0 [])) k3 n3 m3 a3 p3 := ⟨hv3, by rw [← hW9]; exact World.alloc_heap_new w8 _, ty_later ty3 hb9⟩
    have bm9 := BM6.out.later hbb; have bx9 := BX6.out.later hbb; have bu9 := BU6.out.later hbb
    have HB9 := Lib.hid (HB6.out.tr hbb (Nat.le_refl _)); have HW9 := Lib.hid hW9
    have HATD := Lib.hid (fun x (h : Below W9.heap.size W9 x) => ag_any (w := x) (bx9.later h).says (bm9.later h).says (bx9.later h).ty (bm9.later h).ty HST.out (by simp [Tp.size, Tp.sizes]))
    have HADT := Lib.hid (fun x (h : Below W9.heap.size W9 x) => ag_any (w := x) (bm9.later h).says (bx9.later h).says (bm9.later h).ty (bx9.later h).ty (by simp [Tp.size, Tp.sizes]) HST.out)
    have HATU := Lib.hid (fun x (h : Below W9.heap.size W9 x) => ag_any (w := x) (bx9.later h).says (bu9.later h).says (bx9.later h).ty (bu9.later h).ty HST.out HSU.out)
    have HSTU := Lib.hid (fun x (h : Below W9.heap.size W9 x) => ks_any (w := x) (bx9.later h).says (bu9.later h).says (bx9.later h).ty (bu9.later h).ty)
    have HSMT := Lib.hid (fun x (h : Below W9.heap.size W9 x) => ks_any (w := x) (bs9.later h).says (bx9.later h).says (bs9.later h).ty (bx9.later h).ty)
    have HWT := Lib.hid (fun x (h : Below W9.heap.size W9 x) => wo_any (w := x) 5 (bx9.later h).says (bx9.later h).ty)
    have HWU := Lib.hid (fun x (h : Below W9.heap.size W9 x) => wo_any (w := x) 5 (bu9.later h).says (bu9.later h).ty)
    have HWAK := Lib.hid (fun x (_ : Below W9.heap.size W9 x) => wakes_any x)
    have HCELL := Lib.hid (fun x (h : Below W9.heap.size W9 x) => (⟨(bx9.later h).cells, (bu9.later h).cells, (bm9.later h).cells, (bs9.later h).cells⟩ : _ ∧ _ ∧ _ ∧ _))
    have HLE := Lib.hid (fun x (h : Below W9.heap.size W9 x) => h.size)
    rw [dyn_ok HRT.out, HCL.out] at HATD
    rw [ok_comm, dyn_ok HRT.out, HCL.out] at HADT
    have hsame : cl = true → Tp.same (Mt t (.mk 5 0 [])) t = true := fun h => by rw [dyn_meet HRT.out (HCL.out.trans h)]; exact Tp.same_refl _
    have HSAME := Lib.hid hsame
    obtain ⟨sm, hsm⟩ : ∃ b, Tp.same (Mt t (.mk 5 0 [])) t = b := ⟨_, rfl⟩
    rw [hsm] at HSMT HSAME
    obtain ⟨wt, hwt⟩ : ∃ b, Tp.without 5 t = b := ⟨_, rfl⟩
    obtain ⟨wu, hwu⟩ : ∃ b, Tp.without 5 u = b := ⟨_, rfl⟩
    obtain ⟨otu, hotu⟩ : ∃ b, Tp.ok t u = b := ⟨_, rfl⟩
    obtain ⟨stu, hstu⟩ : ∃ b, Tp.same t u = b := ⟨_, rfl⟩
    have HSTAT := Lib.hid (show wt = true → wu = true → otu = stu from fun h1 h2 => by rw [← hotu, ← hstu]; exact stat_ok HRT.out HRU.out (hwt.trans h1) (hwu.trans h2))
    rw [hwt] at HWT; rw [hwu] at HWU; rw [hotu] at HATU; rw [hstu] at HSTU
    clear hW9 hb9 hbb hv3 ty3 hb bs9 bm9 bx9 bu9 hsame hsm hwt hwu hotu hstu
    go_upto_region 6 with fail
    rw [HW9.out]
    have HBd0 := Lib.hid (Below.refl W9.heap.size W9)
    obtain ⟨⟨c0, c1, c2⟩, ⟨d0, d1, d2⟩, ⟨e0, e1, e2⟩, ⟨h0, h1, h2⟩⟩ := HCELL.out _ HBd0.out
    go_wp2_with fail
    refine (HATD.out _ HBd0.out).mono ?_
    clear c0 c1 c2 d0 d1 d2 e0 e1 e2 h0 h1 h2
    rintro e y1 ⟨rfl, hb⟩
    have HY1 := Lib.hid (HBd0.out.tr hb (Nat.le_refl _)); clear hb
    obtain ⟨⟨c0, c1, c2⟩, ⟨d0, d1, d2⟩, ⟨e0, e1, e2⟩, ⟨h0, h1, h2⟩⟩ := HCELL.out _ HY1.out
    cases cl with
    | true =>
      obtain rfl : sm = true := HSAME.out rfl
      go_wp2_with fail
      refine (HADT.out _ HY1.out).mono ?_
      clear c0 c1 c2 d0 d1 d2 e0 e1 e2 h0 h1 h2
      rintro e y2 ⟨rfl, hb⟩
      have HY2 := Lib.hid (HY1.out.tr hb (Nat.le_refl _)); clear hb
      obtain ⟨⟨c0, c1, c2⟩, ⟨d0, d1, d2⟩, ⟨e0, e1, e2⟩, ⟨h0, h1, h2⟩⟩ := HCELL.out _ HY2.out
      go_wp2_with fail
      refine (HSMT.out _ HY2.out).mono ?_
      clear c0 c1 c2 d0 d1 d2 e0 e1 e2 h0 h1 h2
      rintro e y3 ⟨rfl, hb⟩
      have HY3 := Lib.hid (HY2.out.tr hb (Nat.le_refl _)); clear hb
      obtain ⟨⟨c0, c1, c2⟩, ⟨d0, d1, d2⟩, ⟨e0, e1, e2⟩, ⟨h0, h1, h2⟩⟩ := HCELL.out _ HY3.out
      clear e0 e1 e2 h0 h1 h2
      go_wp2_with fail
      refine (HWT.out _ HY3.out).mono ?_
      clear c0 c1 c2 d0 d1 d2
      rintro e y4 ⟨rfl, hb⟩
      have HY4 := Lib.hid (HY3.out.tr hb (Nat.le_refl _)); clear hb
      obtain ⟨⟨c0, c1, c2⟩, ⟨d0, d1, d2⟩, -⟩ := HCELL.out _ HY4.out
      cases wt with
      | false =>
        go_wp2_with fail
        clear c0 c1 c2 d0 d1 d2
        have HBd := Lib.hid HY4.out.drew
        obtain ⟨⟨c0, c1, c2⟩, ⟨d0, d1, d2⟩, -⟩ := HCELL.out _ HBd.out
        refine wp_region_seq [(0, false), (0, false), (0, false), (0, false), (0, false), (1, false), (1, false), (0, true), (0, true), (0, false), (0, false), (0, false), (0, true), (0, false), (0, false)] (by kernel_rfl) (by kernel_rfl) (by kernel_rfl) (fun _ _ _ d _ h => by cases d <;> exact h) ?_
        repeat
          first
          | (first | with_reducible refine sp0 (fun K hK => ?_) | with_reducible refine sp1 (fun K hK => ?_) | with_reducible refine sp2 (fun K hK => ?_) | with_reducible refine sp3 (fun K hK => ?_) | with_reducible refine sp4 (fun K hK => ?_)
             go_simp
             first
             | (with_reducible refine hK _ _ ?_; clear hK K)
             | (with_reducible apply Exists.intro
                refine ⟨fun x hx => ?_, hK _ _ ?_⟩
                first
                  | (with_reducible exact rfl)
                  | (have y0 := keepc hx c0; have y1 := keepc hx c1; have y2 := keepc hx c2; have y3 := keepc hx d0; have y4 := keepc hx d1; have y5 := keepc hx d2; go_simp; done)
                  | (have y0 := keepc hx c0; have y1 := keepc hx c1; have y2 := keepc hx c2; have y3 := keepc hx d0; have y4 := keepc hx d1; have y5 := keepc hx d2; go_simp; with_reducible exact rfl)
                clear hK K))
          | (first | with_reducible refine sk0 ?_ (fun K hK => ?_) | with_reducible refine sk1 ?_ (fun K hK => ?_) | with_reducible refine sk2 ?_ (fun K hK => ?_) | with_reducible refine sk3 ?_ (fun K hK => ?_) | with_reducible refine sk4 ?_ (fun K hK => ?_)
             rfl
             go_simp
             with_reducible refine hK _ _ ?_
             clear hK K)
        first | with_reducible refine sc0 (fun K hK => ?_) | with_reducible refine sc1 (fun K hK => ?_) | with_reducible refine sc2 (fun K hK => ?_) | with_reducible refine sc3 (fun K hK => ?_) | with_reducible refine sc4 (fun K hK => ?_)
        go_simp
        refine (HWAK.out _ HBd.out).mono ?_
        clear c0 c1 c2 d0 d1 d2
        rintro e v9 ⟨rfl, hb9⟩
        refine ⟨hb9, hK _ _ ?_⟩
        clear hK K
        have HC9 := Lib.hid (HBd.out.trans (hb9.mono (HLE.out _ HBd.out)))
        clear hb9
        repeat
          first
          | (first | with_reducible refine sp0 (fun K hK => ?_) | with_reducible refine sp1 (fun K hK => ?_) | with_reducible refine sp2 (fun K hK => ?_) | with_reducible refine sp3 (fun K hK => ?_) | with_reducible refine sp4 (fun K hK => ?_)
             go_simp
             first
             | (with_reducible refine hK _ _ ?_; clear hK K)
             | (with_reducible apply Exists.intro
                refine ⟨fun x hx => ?_, hK _ _ ?_⟩
                first
                  | (with_reducible exact rfl)
                clear hK K))
          | (first | with_reducible refine sk0 ?_ (fun K hK => ?_) | with_reducible refine sk1 ?_ (fun K hK => ?_) | with_reducible refine sk2 ?_ (fun K hK => ?_) | with_reducible refine sk3 ?_ (fun K hK => ?_) | with_reducible refine sk4 ?_ (fun K hK => ?_)
             rfl
             go_simp
             with_reducible refine hK _ _ ?_
             clear hK K)
        with_reducible refine seq_nil ?_
        go_wp2_with fail
        go_ret
        exact ⟨rfl, HB9.out.tr HC9.out (Nat.le_refl _)⟩
      | true =>
        go_wp2_with fail
        refine (HWU.out _ HY4.out).mono ?_
        clear c0 c1 c2 d0 d1 d2
        rintro e y5 ⟨rfl, hb⟩
        have HY5 := Lib.hid (HY4.out.tr hb (Nat.le_refl _)); clear hb
        obtain ⟨⟨c0, c1, c2⟩, ⟨d0, d1, d2⟩, -⟩ := HCELL.out _ HY5.out
        cases wu with
        | false =>
          go_wp2_with fail
          clear c0 c1 c2 d0 d1 d2
          have HBd := Lib.hid HY5.out.drew
          obtain ⟨⟨c0, c1, c2⟩, ⟨d0, d1, d2⟩, -⟩ := HCELL.out _ HBd.out
          refine wp_region_seq [(0, false), (0, false), (0, false), (0, false), (0, false), (1, false), (1, false), (0, true), (0, true), (0, false), (0, false), (0, false), (0, true), (0, false), (0, false)] (by kernel_rfl) (by kernel_rfl) (by kernel_rfl) (fun _ _ _ d _ h => by cases d <;> exact h) ?_
          repeat
            first
            | (first | with_reducible refine sp0 (fun K hK => ?_) | with_reducible refine sp1 (fun K hK => ?_) | with_reducible refine sp2 (fun K hK => ?_) | with_reducible refine sp3 (fun K hK => ?_) | with_reducible refine sp4 (fun K hK => ?_)
               go_simp
               first
               | (with_reducible refine hK _ _ ?_; clear hK K)
               | (with_reducible apply Exists.intro
                  refine ⟨fun x hx => ?_, hK _ _ ?_⟩
                  first
                    | (with_reducible exact rfl)
                    | (have y0 := keepc hx c0; have y1 := keepc hx c1; have y2 := keepc hx c2; have y3 := keepc hx d0; have y4 := keepc hx d1; have y5 := keepc hx d2; go_simp; done)
                    | (have y0 := keepc hx c0; have y1 := keepc hx c1; have y2 := keepc hx c2; have y3 := keepc hx d0; have y4 := keepc hx d1; have y5 := keepc hx d2; go_simp; with_reducible exact rfl)
                  clear hK K))
            | (first | with_reducible refine sk0 ?_ (fun K hK => ?_) | with_reducible refine sk1 ?_ (fun K hK => ?_) | with_reducible refine sk2 ?_ (fun K hK => ?_) | with_reducible refine sk3 ?_ (fun K hK => ?_) | with_reducible refine sk4 ?_ (fun K hK => ?_)
               rfl
               go_simp
               with_reducible refine hK _ _ ?_
               clear hK K)
          first | with_reducible refine sc0 (fun K hK => ?_) | with_reducible refine sc1 (fun K hK => ?_) | with_reducible refine sc2 (fun K hK => ?_) | with_reducible refine sc3 (fun K hK => ?_) | with_reducible refine sc4 (fun K hK => ?_)
          go_simp
          refine (HWAK.out _ HBd.out).mono ?_
          clear c0 c1 c2 d0 d1 d2
          rintro e v9 ⟨rfl, hb9⟩
          refine ⟨hb9, hK _ _ ?_⟩
          clear hK K
          have HC9 := Lib.hid (HBd.out.trans (hb9.mono (HLE.out _ HBd.out)))
          clear hb9
          repeat
            first
            | (first | with_reducible refine sp0 (fun K hK => ?_) | with_reducible refine sp1 (fun K hK => ?_) | with_reducible refine sp2 (fun K hK => ?_) | with_reducible refine sp3 (fun K hK => ?_) | with_reducible refine sp4 (fun K hK => ?_)
               go_simp
               first
               | (with_reducible refine hK _ _ ?_; clear hK K)
               | (with_reducible apply Exists.intro
                  refine ⟨fun x hx => ?_, hK _ _ ?_⟩
                  first
                    | (with_reducible exact rfl)
                  clear hK K))
            | (first | with_reducible refine sk0 ?_ (fun K hK => ?_) | with_reducible refine sk1 ?_ (fun K hK => ?_) | with_reducible refine sk2 ?_ (fun K hK => ?_) | with_reducible refine sk3 ?_ (fun K hK => ?_) | with_reducible refine sk4 ?_ (fun K hK => ?_)
               rfl
               go_simp
               with_reducible refine hK _ _ ?_
               clear hK K)
          with_reducible refine seq_nil ?_
          go_wp2_with fail
          go_ret
          exact ⟨rfl, HB9.out.tr HC9.out (Nat.le_refl _)⟩
        | true =>
          obtain rfl : otu = stu := HSTAT.out (by simp) (by simp)
          cases otu
          all_goals
            go_wp2_with fail
            clear c0 c1 c2 d0 d1 d2
            have HBd := Lib.hid HY5.out.drew
            obtain ⟨⟨c0, c1, c2⟩, ⟨d0, d1, d2⟩, -⟩ := HCELL.out _ HBd.out
            refine wp_region_seq [(0, false), (0, false), (0, false), (0, false), (0, false), (1, false), (1, false), (0, true), (0, true), (0, false), (0, false), (0, false), (0, true), (0, false), (0, false)] (by kernel_rfl) (by kernel_rfl) (by kernel_rfl) (fun _ _ _ d _ h => by cases d <;> exact h) ?_
            repeat
              first
              | (first | with_reducible refine sp0 (fun K hK => ?_) | with_reducible refine sp1 (fun K hK => ?_) | with_reducible refine sp2 (fun K hK => ?_) | with_reducible refine sp3 (fun K hK => ?_) | with_reducible refine sp4 (fun K hK => ?_)
                 go_simp
                 first
                 | (with_reducible refine hK _ _ ?_; clear hK K)
                 | (with_reducible apply Exists.intro
                    refine ⟨fun x hx => ?_, hK _ _ ?_⟩
                    first
                      | (with_reducible exact rfl)
                      | (have y0 := keepc hx c0; have y1 := keepc hx c1; have y2 := keepc hx c2; have y3 := keepc hx d0; have y4 := keepc hx d1; have y5 := keepc hx d2; go_simp; done)
                      | (have y0 := keepc hx c0; have y1 := keepc hx c1; have y2 := keepc hx c2; have y3 := keepc hx d0; have y4 := keepc hx d1; have y5 := keepc hx d2; go_simp; with_reducible exact rfl)
                    clear hK K))
              | (first | with_reducible refine sk0 ?_ (fun K hK => ?_) | with_reducible refine sk1 ?_ (fun K hK => ?_) | with_reducible refine sk2 ?_ (fun K hK => ?_) | with_reducible refine sk3 ?_ (fun K hK => ?_) | with_reducible refine sk4 ?_ (fun K hK => ?_)
                 rfl
                 go_simp
                 with_reducible refine hK _ _ ?_
                 clear hK K)
            first | with_reducible refine sc0 (fun K hK => ?_) | with_reducible refine sc1 (fun K hK => ?_) | with_reducible refine sc2 (fun K hK => ?_) | with_reducible refine sc3 (fun K hK => ?_) | with_reducible refine sc4 (fun K hK => ?_)
            go_simp
            refine (HATU.out _ HBd.out).mono ?_
            clear c0 c1 c2 d0 d1 d2
            rintro e v1 ⟨rfl, hb9⟩
            refine ⟨hb9, hK _ _ ?_⟩
            clear hK K
            have HC1 := Lib.hid (HBd.out.trans (hb9.mono (HLE.out _ HBd.out)))
            clear hb9
            obtain ⟨⟨c0, c1, c2⟩, ⟨d0, d1, d2⟩, -⟩ := HCELL.out v1 HC1.out
            repeat
              first
              | (first | with_reducible refine sp0 (fun K hK => ?_) | with_reducible refine sp1 (fun K hK => ?_) | with_reducible refine sp2 (fun K hK => ?_) | with_reducible refine sp3 (fun K hK => ?_) | with_reducible refine sp4 (fun K hK => ?_)
                 go_simp
                 first
                 | (with_reducible refine hK _ _ ?_; clear hK K)
                 | (with_reducible apply Exists.intro
                    refine ⟨fun x hx => ?_, hK _ _ ?_⟩
                    first
                      | (with_reducible exact rfl)
                      | (have y0 := keepc hx c0; have y1 := keepc hx c1; have y2 := keepc hx c2; have y3 := keepc hx d0; have y4 := keepc hx d1; have y5 := keepc hx d2; go_simp; done)
                      | (have y0 := keepc hx c0; have y1 := keepc hx c1; have y2 := keepc hx c2; have y3 := keepc hx d0; have y4 := keepc hx d1; have y5 := keepc hx d2; go_simp; with_reducible exact rfl)
                    clear hK K))
              | (first | with_reducible refine sk0 ?_ (fun K hK => ?_) | with_reducible refine sk1 ?_ (fun K hK => ?_) | with_reducible refine sk2 ?_ (fun K hK => ?_) | with_reducible refine sk3 ?_ (fun K hK => ?_) | with_reducible refine sk4 ?_ (fun K hK => ?_)
                 rfl
                 go_simp
                 with_reducible refine hK _ _ ?_
                 clear hK K)
            first | with_reducible refine sc0 (fun K hK => ?_) | with_reducible refine sc1 (fun K hK => ?_) | with_reducible refine sc2 (fun K hK => ?_) | with_reducible refine sc3 (fun K hK => ?_) | with_reducible refine sc4 (fun K hK => ?_)
            go_simp
            refine (HSTU.out _ HC1.out).mono ?_
            clear c0 c1 c2 d0 d1 d2
            rintro e v2 ⟨rfl, hb9⟩
            refine ⟨hb9, hK _ _ ?_⟩
            clear hK K
            have HC2 := Lib.hid (HC1.out.trans (hb9.mono (HLE.out _ HC1.out)))
            clear hb9
            obtain ⟨⟨c0, c1, c2⟩, ⟨d0, d1, d2⟩, -⟩ := HCELL.out v2 HC2.out
            repeat
              first
              | (first | with_reducible refine sp0 (fun K hK => ?_) | with_reducible refine sp1 (fun K hK => ?_) | with_reducible refine sp2 (fun K hK => ?_) | with_reducible refine sp3 (fun K hK => ?_) | with_reducible refine sp4 (fun K hK => ?_)
                 go_simp
                 first
                 | (with_reducible refine hK _ _ ?_; clear hK K)
                 | (with_reducible apply Exists.intro
                    refine ⟨fun x hx => ?_, hK _ _ ?_⟩
                    first
                      | (with_reducible exact rfl)
                      | (have y0 := keepc hx c0; have y1 := keepc hx c1; have y2 := keepc hx c2; have y3 := keepc hx d0; have y4 := keepc hx d1; have y5 := keepc hx d2; go_simp; done)
                      | (have y0 := keepc hx c0; have y1 := keepc hx c1; have y2 := keepc hx c2; have y3 := keepc hx d0; have y4 := keepc hx d1; have y5 := keepc hx d2; go_simp; with_reducible exact rfl)
                    clear hK K))
              | (first | with_reducible refine sk0 ?_ (fun K hK => ?_) | with_reducible refine sk1 ?_ (fun K hK => ?_) | with_reducible refine sk2 ?_ (fun K hK => ?_) | with_reducible refine sk3 ?_ (fun K hK => ?_) | with_reducible refine sk4 ?_ (fun K hK => ?_)
                 rfl
                 go_simp
                 with_reducible refine hK _ _ ?_
                 clear hK K)
            first | with_reducible refine sc0 (fun K hK => ?_) | with_reducible refine sc1 (fun K hK => ?_) | with_reducible refine sc2 (fun K hK => ?_) | with_reducible refine sc3 (fun K hK => ?_) | with_reducible refine sc4 (fun K hK => ?_)
            go_simp
            refine (HWAK.out _ HC2.out).mono ?_
            clear c0 c1 c2 d0 d1 d2
            rintro e v9 ⟨rfl, hb9⟩
            refine ⟨hb9, hK _ _ ?_⟩
            clear hK K
            have HC9 := Lib.hid (HC2.out.trans (hb9.mono (HLE.out _ HC2.out)))
            clear hb9
            repeat
              first
              | (first | with_reducible refine sp0 (fun K hK => ?_) | with_reducible refine sp1 (fun K hK => ?_) | with_reducible refine sp2 (fun K hK => ?_) | with_reducible refine sp3 (fun K hK => ?_) | with_reducible refine sp4 (fun K hK => ?_)
                 go_simp
                 first
                 | (with_reducible refine hK _ _ ?_; clear hK K)
                 | (with_reducible apply Exists.intro
                    refine ⟨fun x hx => ?_, hK _ _ ?_⟩
                    first
                      | (with_reducible exact rfl)
                    clear hK K))
              | (first | with_reducible refine sk0 ?_ (fun K hK => ?_) | with_reducible refine sk1 ?_ (fun K hK => ?_) | with_reducible refine sk2 ?_ (fun K hK => ?_) | with_reducible refine sk3 ?_ (fun K hK => ?_) | with_reducible refine sk4 ?_ (fun K hK => ?_)
                 rfl
                 go_simp
                 with_reducible refine hK _ _ ?_
                 clear hK K)
            with_reducible refine seq_nil ?_
            go_wp2_with fail
            go_ret
            exact ⟨rfl, HB9.out.tr HC9.out (Nat.le_refl _)⟩
    | false =>
      go_wp2_with fail
      refine (HADT.out _ HY1.out).mono ?_
      clear c0 c1 c2 d0 d1 d2 e0 e1 e2 h0 h1 h2
      rintro e y2 ⟨rfl, hb⟩
      have HY2 := Lib.hid (HY1.out.tr hb (Nat.le_refl _)); clear hb
      obtain ⟨⟨c0, c1, c2⟩, ⟨d0, d1, d2⟩, ⟨e0, e1, e2⟩, ⟨h0, h1, h2⟩⟩ := HCELL.out _ HY2.out
      have HY3 := Lib.hid HY2.out
      clear e0 e1 e2 h0 h1 h2
      go_wp2_with fail
      refine (HWT.out _ HY3.out).mono ?_
      clear c0 c1 c2 d0 d1 d2
      rintro e y4 ⟨rfl, hb⟩
      have HY4 := Lib.hid (HY3.out.tr hb (Nat.le_refl _)); clear hb
      obtain ⟨⟨c0, c1, c2⟩, ⟨d0, d1, d2⟩, -⟩ := HCELL.out _ HY4.out
      cases wt with
      | false =>
        go_wp2_with fail
        clear c0 c1 c2 d0 d1 d2
        have HBd := Lib.hid HY4.out.drew
        obtain ⟨⟨c0, c1, c2⟩, ⟨d0, d1, d2⟩, -⟩ := HCELL.out _ HBd.out
        refine wp_region_seq [(0, false), (0, false), (0, false), (0, false), (0, false), (1, false), (1, false), (0, true), (0, true), (0, false), (0, false), (0, false), (0, true), (0, false), (0, false)] (by kernel_rfl) (by kernel_rfl) (by kernel_rfl) (fun _ _ _ d _ h => by cases d <;> exact h) ?_
        repeat
          first
          | (first | with_reducible refine sp0 (fun K hK => ?_) | with_reducible refine sp1 (fun K hK => ?_) | with_reducible refine sp2 (fun K hK => ?_) | with_reducible refine sp3 (fun K hK => ?_) | with_reducible refine sp4 (fun K hK => ?_)
             go_simp
             first
             | (with_reducible refine hK _ _ ?_; clear hK K)
             | (with_reducible apply Exists.intro
                refine ⟨fun x hx => ?_, hK _ _ ?_⟩
                first
                  | (with_reducible exact rfl)
                  | (have y0 := keepc hx c0; have y1 := keepc hx c1; have y2 := keepc hx c2; have y3 := keepc hx d0; have y4 := keepc hx d1; have y5 := keepc hx d2; go_simp; done)
                  | (have y0 := keepc hx c0; have y1 := keepc hx c1; have y2 := keepc hx c2; have y3 := keepc hx d0; have y4 := keepc hx d1; have y5 := keepc hx d2; go_simp; with_reducible exact rfl)
                clear hK K))
          | (first | with_reducible refine sk0 ?_ (fun K hK => ?_) | with_reducible refine sk1 ?_ (fun K hK => ?_) | with_reducible refine sk2 ?_ (fun K hK => ?_) | with_reducible refine sk3 ?_ (fun K hK => ?_) | with_reducible refine sk4 ?_ (fun K hK => ?_)
             rfl
             go_simp
             with_reducible refine hK _ _ ?_
             clear hK K)
        first | with_reducible refine sc0 (fun K hK => ?_) | with_reducible refine sc1 (fun K hK => ?_) | with_reducible refine sc2 (fun K hK => ?_) | with_reducible refine sc3 (fun K hK => ?_) | with_reducible refine sc4 (fun K hK => ?_)
        go_simp
        refine (HWAK.out _ HBd.out).mono ?_
        clear c0 c1 c2 d0 d1 d2
        rintro e v9 ⟨rfl, hb9⟩
        refine ⟨hb9, hK _ _ ?_⟩
        clear hK K
        have HC9 := Lib.hid (HBd.out.trans (hb9.mono (HLE.out _ HBd.out)))
        clear hb9
        repeat
          first
          | (first | with_reducible refine sp0 (fun K hK => ?_) | with_reducible refine sp1 (fun K hK => ?_) | with_reducible refine sp2 (fun K hK => ?_) | with_reducible refine sp3 (fun K hK => ?_) | with_reducible refine sp4 (fun K hK => ?_)
             go_simp
             first
             | (with_reducible refine hK _ _ ?_; clear hK K)
             | (with_reducible apply Exists.intro
                refine ⟨fun x hx => ?_, hK _ _ ?_⟩
                first
                  | (with_reducible exact rfl)
                clear hK K))
          | (first | with_reducible refine sk0 ?_ (fun K hK => ?_) | with_reducible refine sk1 ?_ (fun K hK => ?_) | with_reducible refine sk2 ?_ (fun K hK => ?_) | with_reducible refine sk3 ?_ (fun K hK => ?_) | with_reducible refine sk4 ?_ (fun K hK => ?_)
             rfl
             go_simp
             with_reducible refine hK _ _ ?_
             clear hK K)
        with_reducible refine seq_nil ?_
        go_wp2_with fail
        go_ret
        exact ⟨rfl, HB9.out.tr HC9.out (Nat.le_refl _)⟩
      | true =>
        go_wp2_with fail
        refine (HWU.out _ HY4.out).mono ?_
        clear c0 c1 c2 d0 d1 d2
        rintro e y5 ⟨rfl, hb⟩
        have HY5 := Lib.hid (HY4.out.tr hb (Nat.le_refl _)); clear hb
        obtain ⟨⟨c0, c1, c2⟩, ⟨d0, d1, d2⟩, -⟩ := HCELL.out _ HY5.out
        cases wu with
        | false =>
          go_wp2_with fail
          clear c0 c1 c2 d0 d1 d2
          have HBd := Lib.hid HY5.out.drew
          obtain ⟨⟨c0, c1, c2⟩, ⟨d0, d1, d2⟩, -⟩ := HCELL.out _ HBd.out
          refine wp_region_seq [(0, false), (0, false), (0, false), (0, false), (0, false), (1, false), (1, false), (0, true), (0, true), (0, false), (0, false), (0, false), (0, true), (0, false), (0, false)] (by kernel_rfl) (by kernel_rfl) (by kernel_rfl) (fun _ _ _ d _ h => by cases d <;> exact h) ?_
          repeat
            first
            | (first | with_reducible refine sp0 (fun K hK => ?_) | with_reducible refine sp1 (fun K hK => ?_) | with_reducible refine sp2 (fun K hK => ?_) | with_reducible refine sp3 (fun K hK => ?_) | with_reducible refine sp4 (fun K hK => ?_)
               go_simp
               first
               | (with_reducible refine hK _ _ ?_; clear hK K)
               | (with_reducible apply Exists.intro
                  refine ⟨fun x hx => ?_, hK _ _ ?_⟩
                  first
                    | (with_reducible exact rfl)
                    | (have y0 := keepc hx c0; have y1 := keepc hx c1; have y2 := keepc hx c2; have y3 := keepc hx d0; have y4 := keepc hx d1; have y5 := keepc hx d2; go_simp; done)
                    | (have y0 := keepc hx c0; have y1 := keepc hx c1; have y2 := keepc hx c2; have y3 := keepc hx d0; have y4 := keepc hx d1; have y5 := keepc hx d2; go_simp; with_reducible exact rfl)
                  clear hK K))
            | (first | with_reducible refine sk0 ?_ (fun K hK => ?_) | with_reducible refine sk1 ?_ (fun K hK => ?_) | with_reducible refine sk2 ?_ (fun K hK => ?_) | with_reducible refine sk3 ?_ (fun K hK => ?_) | with_reducible refine sk4 ?_ (fun K hK => ?_)
               rfl
               go_simp
               with_reducible refine hK _ _ ?_
               clear hK K)
          first | with_reducible refine sc0 (fun K hK => ?_) | with_reducible refine sc1 (fun K hK => ?_) | with_reducible refine sc2 (fun K hK => ?_) | with_reducible refine sc3 (fun K hK => ?_) | with_reducible refine sc4 (fun K hK => ?_)
          go_simp
          refine (HWAK.out _ HBd.out).mono ?_
          clear c0 c1 c2 d0 d1 d2
          rintro e v9 ⟨rfl, hb9⟩
          refine ⟨hb9, hK _ _ ?_⟩
          clear hK K
          have HC9 := Lib.hid (HBd.out.trans (hb9.mono (HLE.out _ HBd.out)))
          clear hb9
          repeat
            first
            | (first | with_reducible refine sp0 (fun K hK => ?_) | with_reducible refine sp1 (fun K hK => ?_) | with_reducible refine sp2 (fun K hK => ?_) | with_reducible refine sp3 (fun K hK => ?_) | with_reducible refine sp4 (fun K hK => ?_)
               go_simp
               first
               | (with_reducible refine hK _ _ ?_; clear hK K)
               | (with_reducible apply Exists.intro
                  refine ⟨fun x hx => ?_, hK _ _ ?_⟩
                  first
                    | (with_reducible exact rfl)
                  clear hK K))
            | (first | with_reducible refine sk0 ?_ (fun K hK => ?_) | with_reducible refine sk1 ?_ (fun K hK => ?_) | with_reducible refine sk2 ?_ (fun K hK => ?_) | with_reducible refine sk3 ?_ (fun K hK => ?_) | with_reducible refine sk4 ?_ (fun K hK => ?_)
               rfl
               go_simp
               with_reducible refine hK _ _ ?_
               clear hK K)
          with_reducible refine seq_nil ?_
          go_wp2_with fail
          go_ret
          exact ⟨rfl, HB9.out.tr HC9.out (Nat.le_refl _)⟩
        | true =>
          obtain rfl : otu = stu := HSTAT.out (by simp) (by simp)
          cases otu
          all_goals
            go_wp2_with fail
            clear c0 c1 c2 d0 d1 d2
            have HBd := Lib.hid HY5.out.drew
            obtain ⟨⟨c0, c1, c2⟩, ⟨d0, d1, d2⟩, -⟩ := HCELL.out _ HBd.out
            refine wp_region_seq [(0, false), (0, false), (0, false), (0, false), (0, false), (1, false), (1, false), (0, true), (0, true), (0, false), (0, false), (0, false), (0, true), (0, false), (0, false)] (by kernel_rfl) (by kernel_rfl) (by kernel_rfl) (fun _ _ _ d _ h => by cases d <;> exact h) ?_
            repeat
              first
              | (first | with_reducible refine sp0 (fun K hK => ?_) | with_reducible refine sp1 (fun K hK => ?_) | with_reducible refine sp2 (fun K hK => ?_) | with_reducible refine sp3 (fun K hK => ?_) | with_reducible refine sp4 (fun K hK => ?_)
                 go_simp
                 first
                 | (with_reducible refine hK _ _ ?_; clear hK K)
                 | (with_reducible apply Exists.intro
                    refine ⟨fun x hx => ?_, hK _ _ ?_⟩
                    first
                      | (with_reducible exact rfl)
                      | (have y0 := keepc hx c0; have y1 := keepc hx c1; have y2 := keepc hx c2; have y3 := keepc hx d0; have y4 := keepc hx d1; have y5 := keepc hx d2; go_simp; done)
                      | (have y0 := keepc hx c0; have y1 := keepc hx c1; have y2 := keepc hx c2; have y3 := keepc hx d0; have y4 := keepc hx d1; have y5 := keepc hx d2; go_simp; with_reducible exact rfl)
                    clear hK K))
              | (first | with_reducible refine sk0 ?_ (fun K hK => ?_) | with_reducible refine sk1 ?_ (fun K hK => ?_) | with_reducible refine sk2 ?_ (fun K hK => ?_) | with_reducible refine sk3 ?_ (fun K hK => ?_) | with_reducible refine sk4 ?_ (fun K hK => ?_)
                 rfl
                 go_simp
                 with_reducible refine hK _ _ ?_
                 clear hK K)
            first | with_reducible refine sc0 (fun K hK => ?_) | with_reducible refine sc1 (fun K hK => ?_) | with_reducible refine sc2 (fun K hK => ?_) | with_reducible refine sc3 (fun K hK => ?_) | with_reducible refine sc4 (fun K hK => ?_)
            go_simp
            refine (HATU.out _ HBd.out).mono ?_
            clear c0 c1 c2 d0 d1 d2
            rintro e v1 ⟨rfl, hb9⟩
            refine ⟨hb9, hK _ _ ?_⟩
            clear hK K
            have HC1 := Lib.hid (HBd.out.trans (hb9.mono (HLE.out _ HBd.out)))
            clear hb9
            obtain ⟨⟨c0, c1, c2⟩, ⟨d0, d1, d2⟩, -⟩ := HCELL.out v1 HC1.out
            repeat
              first
              | (first | with_reducible refine sp0 (fun K hK => ?_) | with_reducible refine sp1 (fun K hK => ?_) | with_reducible refine sp2 (fun K hK => ?_) | with_reducible refine sp3 (fun K hK => ?_) | with_reducible refine sp4 (fun K hK => ?_)
                 go_simp
                 first
                 | (with_reducible refine hK _ _ ?_; clear hK K)
                 | (with_reducible apply Exists.intro
                    refine ⟨fun x hx => ?_, hK _ _ ?_⟩
                    first
                      | (with_reducible exact rfl)
                      | (have y0 := keepc hx c0; have y1 := keepc hx c1; have y2 := keepc hx c2; have y3 := keepc hx d0; have y4 := keepc hx d1; have y5 := keepc hx d2; go_simp; done)
                      | (have y0 := keepc hx c0; have y1 := keepc hx c1; have y2 := keepc hx c2; have y3 := keepc hx d0; have y4 := keepc hx d1; have y5 := keepc hx d2; go_simp; with_reducible exact rfl)
                    clear hK K))
              | (first | with_reducible refine sk0 ?_ (fun K hK => ?_) | with_reducible refine sk1 ?_ (fun K hK => ?_) | with_reducible refine sk2 ?_ (fun K hK => ?_) | with_reducible refine sk3 ?_ (fun K hK => ?_) | with_reducible refine sk4 ?_ (fun K hK => ?_)
                 rfl
                 go_simp
                 with_reducible refine hK _ _ ?_
                 clear hK K)
            first | with_reducible refine sc0 (fun K hK => ?_) | with_reducible refine sc1 (fun K hK => ?_) | with_reducible refine sc2 (fun K hK => ?_) | with_reducible refine sc3 (fun K hK => ?_) | with_reducible refine sc4 (fun K hK => ?_)
            go_simp
            refine (HSTU.out _ HC1.out).mono ?_
            clear c0 c1 c2 d0 d1 d2
            rintro e v2 ⟨rfl, hb9⟩
            refine ⟨hb9, hK _ _ ?_⟩
            clear hK K
            have HC2 := Lib.hid (HC1.out.trans (hb9.mono (HLE.out _ HC1.out)))
            clear hb9
            obtain ⟨⟨c0, c1, c2⟩, ⟨d0, d1, d2⟩, -⟩ := HCELL.out v2 HC2.out
            repeat
              first
              | (first | with_reducible refine sp0 (fun K hK => ?_) | with_reducible refine sp1 (fun K hK => ?_) | with_reducible refine sp2 (fun K hK => ?_) | with_reducible refine sp3 (fun K hK => ?_) | with_reducible refine sp4 (fun K hK => ?_)
                 go_simp
                 first
                 | (with_reducible refine hK _ _ ?_; clear hK K)
                 | (with_reducible apply Exists.intro
                    refine ⟨fun x hx => ?_, hK _ _ ?_⟩
                    first
                      | (with_reducible exact rfl)
                      | (have y0 := keepc hx c0; have y1 := keepc hx c1; have y2 := keepc hx c2; have y3 := keepc hx d0; have y4 := keepc hx d1; have y5 := keepc hx d2; go_simp; done)
                      | (have y0 := keepc hx c0; have y1 := keepc hx c1; have y2 := keepc hx c2; have y3 := keepc hx d0; have y4 := keepc hx d1; have y5 := keepc hx d2; go_simp; with_reducible exact rfl)
                    clear hK K))
              | (first | with_reducible refine sk0 ?_ (fun K hK => ?_) | with_reducible refine sk1 ?_ (fun K hK => ?_) | with_reducible refine sk2 ?_ (fun K hK => ?_) | with_reducible refine sk3 ?_ (fun K hK => ?_) | with_reducible refine sk4 ?_ (fun K hK => ?_)
                 rfl
                 go_simp
                 with_reducible refine hK _ _ ?_
                 clear hK K)
            first | with_reducible refine sc0 (fun K hK => ?_) | with_reducible refine sc1 (fun K hK => ?_) | with_reducible refine sc2 (fun K hK => ?_) | with_reducible refine sc3 (fun K hK => ?_) | with_reducible refine sc4 (fun K hK => ?_)
            go_simp
            refine (HWAK.out _ HC2.out).mono ?_
            clear c0 c1 c2 d0 d1 d2
            rintro e v9 ⟨rfl, hb9⟩
            refine ⟨hb9, hK _ _ ?_⟩
            clear hK K
            have HC9 := Lib.hid (HC2.out.trans (hb9.mono (HLE.out _ HC2.out)))
            clear hb9
            repeat
              first
              | (first | with_reducible refine sp0 (fun K hK => ?_) | with_reducible refine sp1 (fun K hK => ?_) | with_reducible refine sp2 (fun K hK => ?_) | with_reducible refine sp3 (fun K hK => ?_) | with_reducible refine sp4 (fun K hK => ?_)
                 go_simp
                 first
                 | (with_reducible refine hK _ _ ?_; clear hK K)
                 | (with_reducible apply Exists.intro
                    refine ⟨fun x hx => ?_, hK _ _ ?_⟩
                    first
                      | (with_reducible exact rfl)
                    clear hK K))
              | (first | with_reducible refine sk0 ?_ (fun K hK => ?_) | with_reducible refine sk1 ?_ (fun K hK => ?_) | with_reducible refine sk2 ?_ (fun K hK => ?_) | with_reducible refine sk3 ?_ (fun K hK => ?_) | with_reducible refine sk4 ?_ (fun K hK => ?_)
                 rfl
                 go_simp
                 with_reducible refine hK _ _ ?_
                 clear hK K)
            with_reducible refine seq_nil ?_
            go_wp2_with fail
            go_ret
            exact ⟨rfl, HB9.out.tr HC9.out (Nat.le_refl _)⟩
end Go.Proofs.Ytopfdggbkckeoaa
