/- The law SubDyn: its walk. -/
import Derived.Test.YtafekidkikfpcaaSbK
namespace Go.Proofs.Ytafekidkikfpcaa
open Go Go.RowKit
open Tp (T Md)

set_option maxRecDepth 100000 in
set_option maxHeartbeats 8000000 in
theorem ldyn10_any (t : T) (a : Option Addr) (cap : Nat) (u : T) (b : Option Addr) (cap' : Nat) (w : World) (hty : TyAt (LT w.heap.size) w t a cap) (hty' : TyAt (LT w.heap.size) w u b cap') :
    Calls Try.prog 8 #[tv t a cap, tv u b cap'] w fun e w' => e = .returned (.bool true) ∧ Below w.heap.size w w' := by
  obtain ⟨k0, n0, m0, hv⟩ := TV.mk t
  obtain ⟨k9, n9, m9, hv'⟩ := TV.mk u
  rw [tv_of hv, tv_of hv']
  obtain ⟨W3, hW3⟩ : ∃ W2, (w.alloc (.cells #[.int .i64 k0, .int .i64 n0, .slice a m0 cap] 24)).alloc (.cells #[.int .i64 k9, .int .i64 n9, .slice b m9 cap'] 24) = W2 := ⟨_, rfl⟩
  have hb3 : Below w.heap.size w W3 := by rw [← hW3]; exact ((Below.refl _ _).alloc (Nat.le_refl _) _).alloc (by simp) _
  have bx : BoxT W3 w.heap.size t k0 n0 m0 a cap := ⟨hv, by rw [← hW3]; exact box1 _ _ _ _ _, ty_later hty hb3⟩
  have bu : BoxT W3 (w.heap.size + 1) u k9 n9 m9 b cap' := ⟨hv', by rw [← hW3]; exact box2 _ _ _ _ _, ty_later hty' hb3⟩
  obtain ⟨rr, hrr⟩ : ∃ r, (!decide (600 < Tp.sizes [t, u]) && Tp.rights [t, u]) = r := ⟨_, rfl⟩
  have hri := lright_any [t, u] (some ⟨W3.heap.size, 0, none⟩) 2 _ (by simp) (row_two bx.ty bu.ty hv.1 hv.2.1 hv.2.2 hv'.1 hv'.2.1 hv'.2.2)
  rw [hrr] at hri
  have HRI := Lib.hid hri; have HRR := Lib.hid hrr; have HB3 := Lib.hid hb3; have HW3 := Lib.hid hW3; have BX := Lib.hid bx; have BU := Lib.hid bu
  clear hri hrr hb3 hW3 hty hty' hv hv'
  go_enter Try.func8, Try.ntmps8
  go_upto_region 1 with fail
  rw [HW3.out]
  obtain ⟨c0, c1, c2⟩ := bx.cells
  obtain ⟨d0, d1, d2⟩ := bu.cells
  clear bx bu
  cases rr with
  | false =>
    go_wp2_with (go_at_call 19; refine HRI.out.mono ?_; clear c0 c1 c2 d0 d1 d2; rintro e w4 ⟨rfl, hb⟩; have HB4 := Lib.hid (Go.RowKit.Below.tr ((Below.refl W3.heap.size W3).alloc (Nat.le_refl _) _) hb (Nat.le_refl _)); clear hb)
    go_ret
    exact ⟨rfl, HB3.out.tr HB4.out (Nat.le_refl _)⟩
  | true =>
    obtain ⟨hrt, hru, hsz⟩ := pair_right HRR.out
    have hst : Tp.size t ≤ 10000 := by omega
    have hsu : Tp.size u ≤ 10000 := by omega
    go_upto_region 3 with (go_at_call 19; refine HRI.out.mono ?_; clear c0 c1 c2 d0 d1 d2; rintro e w4 ⟨rfl, hb⟩; have HB4 := Lib.hid (Go.RowKit.Below.tr ((Below.refl W3.heap.size W3).alloc (Nat.le_refl _) _) hb (Nat.le_refl _)); clear hb)
    have HRT := Lib.hid hrt; have HRU := Lib.hid hru; have HST := Lib.hid hst; have HSU := Lib.hid hsu
    have h5 : I64 5 := i64_nat (by decide) (by decide)
    have BX4 := Lib.hid (BX.out.later HB4.out); have BU4 := Lib.hid (BU.out.later HB4.out); have H5 := Lib.hid h5
    clear hrt hru hsz hst hsu h5
    go_wp2_with fail
    refine (leaf_any 5 w4).mono ?_
    rintro e w5 ⟨rfl, hb⟩
    obtain ⟨W5, hW5⟩ : ∃ W, w5.alloc (.cells #[.int .i64 5, .int .i64 0, .slice none 0 0] 24) = W := ⟨_, rfl⟩
    obtain ⟨bd, hb5⟩ := box_new (t := .mk 5 0 []) (k := 5) (n := 0) (m := 0) (a := none) (c := 0) ⟨rfl, rfl, rfl⟩ (leaf_at H5.out) hW5
    have hbb := hb.tr hb5 (Nat.le_refl _)
    have bx4 := BX4.out.later hbb; have bu4 := BU4.out.later hbb
    have HB5 := Lib.hid ((HB3.out.tr HB4.out (Nat.le_refl _)).tr hbb (Nat.le_refl _)); have HW5 := Lib.hid hW5
    have hd5 : Tp.size (.mk 5 0 []) ≤ 10000 := by simp [Tp.size, Tp.sizes]
    have D1 := Lib.hid (fun x (h : Below W5.heap.size W5 x) => pos_any (w := x) (bx4.later h).says (bd.later h).says (bx4.later h).ty (bd.later h).ty HST.out hd5)
    have D2 := Lib.hid (fun x (h : Below W5.heap.size W5 x) => neg_any (w := x) (bd.later h).says (bx4.later h).says (bd.later h).ty (bx4.later h).ty hd5 HST.out)
    have D3 := Lib.hid (fun x (h : Below W5.heap.size W5 x) => pos_any (w := x) (bd.later h).says (bx4.later h).says (bd.later h).ty (bx4.later h).ty hd5 HST.out)
    have HP := Lib.hid (fun x (h : Below W5.heap.size W5 x) => pos_any (w := x) (bx4.later h).says (bu4.later h).says (bx4.later h).ty (bu4.later h).ty HST.out HSU.out)
    have HNG := Lib.hid (fun x (h : Below W5.heap.size W5 x) => neg_any (w := x) (bx4.later h).says (bu4.later h).says (bx4.later h).ty (bu4.later h).ty HST.out HSU.out)
    have HSM := Lib.hid (fun x (h : Below W5.heap.size W5 x) => ks_any (w := x) (bx4.later h).says (bu4.later h).says (bx4.later h).ty (bu4.later h).ty)
    have HAG := Lib.hid (fun x (h : Below W5.heap.size W5 x) => ag_any (w := x) (bx4.later h).says (bu4.later h).says (bx4.later h).ty (bu4.later h).ty HST.out HSU.out)
    have S5T := Lib.hid (fun x (h : Below W5.heap.size W5 x) => wo_any (w := x) 5 (bx4.later h).says (bx4.later h).ty)
    have S5U := Lib.hid (fun x (h : Below W5.heap.size W5 x) => wo_any (w := x) 5 (bu4.later h).says (bu4.later h).ty)
    have S6T := Lib.hid (fun x (h : Below W5.heap.size W5 x) => wo_any (w := x) 6 (bx4.later h).says (bx4.later h).ty)
    have S6U := Lib.hid (fun x (h : Below W5.heap.size W5 x) => wo_any (w := x) 6 (bu4.later h).says (bu4.later h).ty)
    have HWAK := Lib.hid (fun x (_ : Below W5.heap.size W5 x) => wakes10_any x)
    have HCELL := Lib.hid (fun x (h : Below W5.heap.size W5 x) => (⟨(bx4.later h).cells, (bu4.later h).cells, (bd.later h).cells⟩ : _ ∧ _ ∧ _))
    have HLE := Lib.hid (fun x (h : Below W5.heap.size W5 x) => h.size)
    obtain ⟨l1, l2, l3⟩ := Tp.sub_law_dyn HRT.out
    rw [l1] at D1; rw [l2] at D2; rw [l3, bx4.says.1] at D3
    have hstat := fun h1 h2 m => Tp.sub_law_static (m := m) HRT.out HRU.out h1 h2
    have hagr : Tp.without 6 t = true → Tp.without 6 u = true → (Tp.sb .p t u || Tp.sb .n t u) = true → Tp.ok t u = true := fun h1 h2 h3 => by unfold Tp.ok; rw [HRT.out, HRU.out, Tp.sub_law_agree HRT.out HRU.out h1 h2 h3]; rfl
    obtain ⟨w5t, g1⟩ : ∃ z, Tp.without 5 t = z := ⟨_, rfl⟩
    obtain ⟨w5u, g2⟩ : ∃ z, Tp.without 5 u = z := ⟨_, rfl⟩
    obtain ⟨w6t, g3⟩ : ∃ z, Tp.without 6 t = z := ⟨_, rfl⟩
    obtain ⟨w6u, g4⟩ : ∃ z, Tp.without 6 u = z := ⟨_, rfl⟩
    obtain ⟨p, g5⟩ : ∃ z, Tp.sb .p t u = z := ⟨_, rfl⟩
    obtain ⟨n, g6⟩ : ∃ z, Tp.sb .n t u = z := ⟨_, rfl⟩
    obtain ⟨sm, g7⟩ : ∃ z, Tp.same t u = z := ⟨_, rfl⟩
    obtain ⟨ag, g8⟩ : ∃ z, Tp.ok t u = z := ⟨_, rfl⟩
    have hst1 : w5t = true → w5u = true → p = sm ∧ n = sm := fun h1 h2 => by rw [← g5, ← g6, ← g7]; exact ⟨hstat (g1.trans h1) (g2.trans h2) _, hstat (g1.trans h1) (g2.trans h2) _⟩
    rw [g3, g4, g5, g6, g8] at hagr
    rw [g1] at S5T; rw [g2] at S5U; rw [g3] at S6T; rw [g4] at S6U; rw [g5] at HP; rw [g6] at HNG; rw [g7] at HSM; rw [g8] at HAG
    have HSTAT := Lib.hid hst1; have HAGR := Lib.hid hagr
    obtain ⟨d5, hd5'⟩ : ∃ z, decide (k0 = 5) = z := ⟨_, rfl⟩
    have hq5 : (k0 == 5) = d5 := by rw [← hd5']; rfl
    rw [hd5'] at D3
    clear hb hb5 hbb bx4 bu4 bd hW5 hd5 l1 l2 l3 hstat hagr g1 g2 g3 g4 g5 g6 g7 g8 hst1 BX4 BU4 H5 HRT HRU HST HSU hd5' HW3 BX BU HRI HRR
    go_upto_region 4 with fail
    rw [HW5.out]
    have HBd := Lib.hid (Below.refl W5.heap.size W5).drew
    obtain ⟨⟨c0, c1, c2⟩, ⟨d0, d1, d2⟩, ⟨e0, e1, e2⟩⟩ := HCELL.out _ HBd.out
    refine wp_region_seq [(0, false), (0, false), (0, true), (0, false), (0, false), (0, false), (0, false), (0, true), (0, false), (0, false), (0, false), (0, false), (0, false), (1, false), (1, false), (1, false), (0, true), (0, false), (0, false)] (by kernel_rfl) (by kernel_rfl) (by kernel_rfl) (fun _ _ _ d _ h => by cases d <;> exact h) ?_
    repeat
      first
      | (first | with_reducible refine sp0 (fun K hK => ?_) | with_reducible refine sp1 (fun K hK => ?_) | with_reducible refine sp2 (fun K hK => ?_) | with_reducible refine sp3 (fun K hK => ?_) | with_reducible refine sp4 (fun K hK => ?_)
         go_simp
         first
         | (with_reducible refine hK _ _ ?_; clear hK K)
         | (with_reducible apply Exists.intro
            refine ⟨fun x hx => ?_, hK _ _ ?_⟩
            first
              | (with_reducible exact rfl)
              | (have y0 := keepc hx c0; have y1 := keepc hx c1; have y2 := keepc hx c2; have y3 := keepc hx d0; have y4 := keepc hx d1; have y5 := keepc hx d2; have y6 := keepc hx e0; have y7 := keepc hx e1; have y8 := keepc hx e2; go_simp; done)
              | (have y0 := keepc hx c0; have y1 := keepc hx c1; have y2 := keepc hx c2; have y3 := keepc hx d0; have y4 := keepc hx d1; have y5 := keepc hx d2; have y6 := keepc hx e0; have y7 := keepc hx e1; have y8 := keepc hx e2; go_simp; with_reducible exact rfl)
            clear hK K))
      | (first | with_reducible refine sk0 ?_ (fun K hK => ?_) | with_reducible refine sk1 ?_ (fun K hK => ?_) | with_reducible refine sk2 ?_ (fun K hK => ?_) | with_reducible refine sk3 ?_ (fun K hK => ?_) | with_reducible refine sk4 ?_ (fun K hK => ?_)
         rfl
         go_simp
         with_reducible refine hK _ _ ?_
         clear hK K)
    first | with_reducible refine sc0 (fun K hK => ?_) | with_reducible refine sc1 (fun K hK => ?_) | with_reducible refine sc2 (fun K hK => ?_) | with_reducible refine sc3 (fun K hK => ?_) | with_reducible refine sc4 (fun K hK => ?_)
    go_simp
    refine (D1.out _ HBd.out).mono ?_
    clear c0 c1 c2 d0 d1 d2 e0 e1 e2
    rintro e x1 ⟨rfl, hb9⟩
    refine ⟨hb9, hK _ _ ?_⟩
    clear hK K
    have HX1 := Lib.hid (HBd.out.trans (hb9.mono (HLE.out _ HBd.out)))
    clear hb9
    obtain ⟨⟨c0, c1, c2⟩, ⟨d0, d1, d2⟩, ⟨e0, e1, e2⟩⟩ := HCELL.out x1 HX1.out
    repeat
      first
      | (first | with_reducible refine sp0 (fun K hK => ?_) | with_reducible refine sp1 (fun K hK => ?_) | with_reducible refine sp2 (fun K hK => ?_) | with_reducible refine sp3 (fun K hK => ?_) | with_reducible refine sp4 (fun K hK => ?_)
         go_simp
         first
         | (with_reducible refine hK _ _ ?_; clear hK K)
         | (with_reducible apply Exists.intro
            refine ⟨fun x hx => ?_, hK _ _ ?_⟩
            first
              | (with_reducible exact rfl)
              | (have y0 := keepc hx c0; have y1 := keepc hx c1; have y2 := keepc hx c2; have y3 := keepc hx d0; have y4 := keepc hx d1; have y5 := keepc hx d2; have y6 := keepc hx e0; have y7 := keepc hx e1; have y8 := keepc hx e2; go_simp; done)
              | (have y0 := keepc hx c0; have y1 := keepc hx c1; have y2 := keepc hx c2; have y3 := keepc hx d0; have y4 := keepc hx d1; have y5 := keepc hx d2; have y6 := keepc hx e0; have y7 := keepc hx e1; have y8 := keepc hx e2; go_simp; with_reducible exact rfl)
            clear hK K))
      | (first | with_reducible refine sk0 ?_ (fun K hK => ?_) | with_reducible refine sk1 ?_ (fun K hK => ?_) | with_reducible refine sk2 ?_ (fun K hK => ?_) | with_reducible refine sk3 ?_ (fun K hK => ?_) | with_reducible refine sk4 ?_ (fun K hK => ?_)
         rfl
         go_simp
         with_reducible refine hK _ _ ?_
         clear hK K)
    first | with_reducible refine sc0 (fun K hK => ?_) | with_reducible refine sc1 (fun K hK => ?_) | with_reducible refine sc2 (fun K hK => ?_) | with_reducible refine sc3 (fun K hK => ?_) | with_reducible refine sc4 (fun K hK => ?_)
    go_simp
    refine (D2.out _ HX1.out).mono ?_
    clear c0 c1 c2 d0 d1 d2 e0 e1 e2
    rintro e x2 ⟨rfl, hb9⟩
    refine ⟨hb9, hK _ _ ?_⟩
    clear hK K
    have HX2 := Lib.hid (HX1.out.trans (hb9.mono (HLE.out _ HX1.out)))
    clear hb9
    obtain ⟨⟨c0, c1, c2⟩, ⟨d0, d1, d2⟩, ⟨e0, e1, e2⟩⟩ := HCELL.out x2 HX2.out
    repeat
      first
      | (first | with_reducible refine sp0 (fun K hK => ?_) | with_reducible refine sp1 (fun K hK => ?_) | with_reducible refine sp2 (fun K hK => ?_) | with_reducible refine sp3 (fun K hK => ?_) | with_reducible refine sp4 (fun K hK => ?_)
         go_simp
         first
         | (with_reducible refine hK _ _ ?_; clear hK K)
         | (with_reducible apply Exists.intro
            refine ⟨fun x hx => ?_, hK _ _ ?_⟩
            first
              | (with_reducible exact rfl)
              | (have y0 := keepc hx c0; have y1 := keepc hx c1; have y2 := keepc hx c2; have y3 := keepc hx d0; have y4 := keepc hx d1; have y5 := keepc hx d2; have y6 := keepc hx e0; have y7 := keepc hx e1; have y8 := keepc hx e2; go_simp; done)
              | (have y0 := keepc hx c0; have y1 := keepc hx c1; have y2 := keepc hx c2; have y3 := keepc hx d0; have y4 := keepc hx d1; have y5 := keepc hx d2; have y6 := keepc hx e0; have y7 := keepc hx e1; have y8 := keepc hx e2; go_simp; with_reducible exact rfl)
            clear hK K))
      | (first | with_reducible refine sk0 ?_ (fun K hK => ?_) | with_reducible refine sk1 ?_ (fun K hK => ?_) | with_reducible refine sk2 ?_ (fun K hK => ?_) | with_reducible refine sk3 ?_ (fun K hK => ?_) | with_reducible refine sk4 ?_ (fun K hK => ?_)
         rfl
         go_simp
         with_reducible refine hK _ _ ?_
         clear hK K)
    first | with_reducible refine sc0 (fun K hK => ?_) | with_reducible refine sc1 (fun K hK => ?_) | with_reducible refine sc2 (fun K hK => ?_) | with_reducible refine sc3 (fun K hK => ?_) | with_reducible refine sc4 (fun K hK => ?_)
    go_simp
    refine (D3.out _ HX2.out).mono ?_
    clear c0 c1 c2 d0 d1 d2 e0 e1 e2
    rintro e x3 ⟨rfl, hb9⟩
    refine ⟨hb9, hK _ _ ?_⟩
    clear hK K
    have HX3 := Lib.hid (HX2.out.trans (hb9.mono (HLE.out _ HX2.out)))
    clear hb9
    obtain ⟨⟨c0, c1, c2⟩, ⟨d0, d1, d2⟩, ⟨e0, e1, e2⟩⟩ := HCELL.out x3 HX3.out
    repeat
      first
      | (first | with_reducible refine sp0 (fun K hK => ?_) | with_reducible refine sp1 (fun K hK => ?_) | with_reducible refine sp2 (fun K hK => ?_) | with_reducible refine sp3 (fun K hK => ?_) | with_reducible refine sp4 (fun K hK => ?_)
         go_simp
         first
         | (with_reducible refine hK _ _ ?_; clear hK K)
         | (with_reducible apply Exists.intro
            refine ⟨fun x hx => ?_, hK _ _ ?_⟩
            first
              | (with_reducible exact rfl)
              | (have y0 := keepc hx c0; have y1 := keepc hx c1; have y2 := keepc hx c2; have y3 := keepc hx d0; have y4 := keepc hx d1; have y5 := keepc hx d2; have y6 := keepc hx e0; have y7 := keepc hx e1; have y8 := keepc hx e2; go_simp; done)
              | (have y0 := keepc hx c0; have y1 := keepc hx c1; have y2 := keepc hx c2; have y3 := keepc hx d0; have y4 := keepc hx d1; have y5 := keepc hx d2; have y6 := keepc hx e0; have y7 := keepc hx e1; have y8 := keepc hx e2; go_simp; with_reducible exact rfl)
            clear hK K))
      | (first | with_reducible refine sk0 ?_ (fun K hK => ?_) | with_reducible refine sk1 ?_ (fun K hK => ?_) | with_reducible refine sk2 ?_ (fun K hK => ?_) | with_reducible refine sk3 ?_ (fun K hK => ?_) | with_reducible refine sk4 ?_ (fun K hK => ?_)
         rfl
         go_simp
         with_reducible refine hK _ _ ?_
         clear hK K)
    with_reducible refine seq_nil ?_
    clear hq5
    have HBd := HX3
    cases w5t with
    | false =>
      go_upto_region 7 with (go_at_call 24; (first | with_reducible refine (S5T.out _ HBd.out).mono ?_ | with_reducible refine (S5U.out _ HBd.out).mono ?_); clear c0 c1 c2 d0 d1 d2 e0 e1 e2; rintro e xw ⟨rfl, hb⟩; have HBd := Lib.hid (HBd.out.tr hb (Nat.le_refl _)); clear hb; obtain ⟨⟨c0, c1, c2⟩, ⟨d0, d1, d2⟩, ⟨e0, e1, e2⟩⟩ := HCELL.out _ HBd.out)
      have HBd := Lib.hid (HBd.out.drew)
      obtain ⟨⟨c0, c1, c2⟩, ⟨d0, d1, d2⟩, ⟨e0, e1, e2⟩⟩ := HCELL.out _ HBd.out
      refine wp_region_seq [(0, false), (0, false), (0, false), (0, false), (1, false), (1, false), (0, true), (0, true), (0, false), (0, false), (0, false), (0, false), (1, false), (1, false), (0, true), (0, true), (0, false), (0, false), (0, false)] (by kernel_rfl) (by kernel_rfl) (by kernel_rfl) (fun _ _ _ d _ h => by cases d <;> exact h) ?_
      repeat
        first
        | (first | with_reducible refine sp0 (fun K hK => ?_) | with_reducible refine sp1 (fun K hK => ?_) | with_reducible refine sp2 (fun K hK => ?_) | with_reducible refine sp3 (fun K hK => ?_) | with_reducible refine sp4 (fun K hK => ?_)
           go_simp
           first
           | (with_reducible refine hK _ _ ?_; clear hK K)
           | (with_reducible apply Exists.intro
              refine ⟨fun x hx => ?_, hK _ _ ?_⟩
              first
                | (with_reducible exact rfl)
                | (have y0 := keepc hx c0; have y1 := keepc hx c1; have y2 := keepc hx c2; have y3 := keepc hx d0; have y4 := keepc hx d1; have y5 := keepc hx d2; have y6 := keepc hx e0; have y7 := keepc hx e1; have y8 := keepc hx e2; go_simp; done)
                | (have y0 := keepc hx c0; have y1 := keepc hx c1; have y2 := keepc hx c2; have y3 := keepc hx d0; have y4 := keepc hx d1; have y5 := keepc hx d2; have y6 := keepc hx e0; have y7 := keepc hx e1; have y8 := keepc hx e2; go_simp; with_reducible exact rfl)
              clear hK K))
        | (first | with_reducible refine sk0 ?_ (fun K hK => ?_) | with_reducible refine sk1 ?_ (fun K hK => ?_) | with_reducible refine sk2 ?_ (fun K hK => ?_) | with_reducible refine sk3 ?_ (fun K hK => ?_) | with_reducible refine sk4 ?_ (fun K hK => ?_)
           rfl
           go_simp
           with_reducible refine hK _ _ ?_
           clear hK K)
      with_reducible refine seq_nil ?_
      cases w6t with
      | false =>
        go_wp2_with (first | (go_at_call 24; (first | with_reducible refine (S6T.out _ HBd.out).mono ?_ | with_reducible refine (S6U.out _ HBd.out).mono ?_); clear c0 c1 c2 d0 d1 d2 e0 e1 e2; rintro e xw ⟨rfl, hb⟩; have HBd := Lib.hid (HBd.out.tr hb (Nat.le_refl _)); clear hb; obtain ⟨⟨c0, c1, c2⟩, ⟨d0, d1, d2⟩, ⟨e0, e1, e2⟩⟩ := HCELL.out _ HBd.out) | (go_at_call 12; with_reducible refine (HP.out _ HBd.out).mono ?_; clear c0 c1 c2 d0 d1 d2 e0 e1 e2; rintro e xw ⟨rfl, hb⟩; have HBd := Lib.hid (HBd.out.tr hb (Nat.le_refl _)); clear hb; obtain ⟨⟨c0, c1, c2⟩, ⟨d0, d1, d2⟩, ⟨e0, e1, e2⟩⟩ := HCELL.out _ HBd.out) | (go_at_call 14; with_reducible refine (HNG.out _ HBd.out).mono ?_; clear c0 c1 c2 d0 d1 d2 e0 e1 e2; rintro e xw ⟨rfl, hb⟩; have HBd := Lib.hid (HBd.out.tr hb (Nat.le_refl _)); clear hb; obtain ⟨⟨c0, c1, c2⟩, ⟨d0, d1, d2⟩, ⟨e0, e1, e2⟩⟩ := HCELL.out _ HBd.out) | (go_at_call 25; with_reducible refine (HAG.out _ HBd.out).mono ?_; clear c0 c1 c2 d0 d1 d2 e0 e1 e2; rintro e xw ⟨rfl, hb⟩; have HBd := Lib.hid (HBd.out.tr hb (Nat.le_refl _)); clear hb; obtain ⟨⟨c0, c1, c2⟩, ⟨d0, d1, d2⟩, ⟨e0, e1, e2⟩⟩ := HCELL.out _ HBd.out) | (go_at_call 18; with_reducible refine (HWAK.out _ HBd.out).mono ?_; clear c0 c1 c2 d0 d1 d2 e0 e1 e2; rintro e xw ⟨rfl, hb⟩; have HBd := Lib.hid (HBd.out.tr hb (Nat.le_refl _)); clear hb; obtain ⟨⟨c0, c1, c2⟩, ⟨d0, d1, d2⟩, ⟨e0, e1, e2⟩⟩ := HCELL.out _ HBd.out))
        go_ret
        exact ⟨rfl, HB5.out.tr HBd.out (Nat.le_refl _)⟩
      | true =>
        cases w6u with
        | false =>
          go_wp2_with (first | (go_at_call 24; (first | with_reducible refine (S6T.out _ HBd.out).mono ?_ | with_reducible refine (S6U.out _ HBd.out).mono ?_); clear c0 c1 c2 d0 d1 d2 e0 e1 e2; rintro e xw ⟨rfl, hb⟩; have HBd := Lib.hid (HBd.out.tr hb (Nat.le_refl _)); clear hb; obtain ⟨⟨c0, c1, c2⟩, ⟨d0, d1, d2⟩, ⟨e0, e1, e2⟩⟩ := HCELL.out _ HBd.out) | (go_at_call 12; with_reducible refine (HP.out _ HBd.out).mono ?_; clear c0 c1 c2 d0 d1 d2 e0 e1 e2; rintro e xw ⟨rfl, hb⟩; have HBd := Lib.hid (HBd.out.tr hb (Nat.le_refl _)); clear hb; obtain ⟨⟨c0, c1, c2⟩, ⟨d0, d1, d2⟩, ⟨e0, e1, e2⟩⟩ := HCELL.out _ HBd.out) | (go_at_call 14; with_reducible refine (HNG.out _ HBd.out).mono ?_; clear c0 c1 c2 d0 d1 d2 e0 e1 e2; rintro e xw ⟨rfl, hb⟩; have HBd := Lib.hid (HBd.out.tr hb (Nat.le_refl _)); clear hb; obtain ⟨⟨c0, c1, c2⟩, ⟨d0, d1, d2⟩, ⟨e0, e1, e2⟩⟩ := HCELL.out _ HBd.out) | (go_at_call 25; with_reducible refine (HAG.out _ HBd.out).mono ?_; clear c0 c1 c2 d0 d1 d2 e0 e1 e2; rintro e xw ⟨rfl, hb⟩; have HBd := Lib.hid (HBd.out.tr hb (Nat.le_refl _)); clear hb; obtain ⟨⟨c0, c1, c2⟩, ⟨d0, d1, d2⟩, ⟨e0, e1, e2⟩⟩ := HCELL.out _ HBd.out) | (go_at_call 18; with_reducible refine (HWAK.out _ HBd.out).mono ?_; clear c0 c1 c2 d0 d1 d2 e0 e1 e2; rintro e xw ⟨rfl, hb⟩; have HBd := Lib.hid (HBd.out.tr hb (Nat.le_refl _)); clear hb; obtain ⟨⟨c0, c1, c2⟩, ⟨d0, d1, d2⟩, ⟨e0, e1, e2⟩⟩ := HCELL.out _ HBd.out))
          go_ret
          exact ⟨rfl, HB5.out.tr HBd.out (Nat.le_refl _)⟩
        | true =>
          cases p with
          | true =>
            have hag := HAGR.out rfl rfl rfl
            rw [hag] at HAG
            clear hag HAGR HSTAT
            go_wp2_with (first | (go_at_call 24; (first | with_reducible refine (S6T.out _ HBd.out).mono ?_ | with_reducible refine (S6U.out _ HBd.out).mono ?_); clear c0 c1 c2 d0 d1 d2 e0 e1 e2; rintro e xw ⟨rfl, hb⟩; have HBd := Lib.hid (HBd.out.tr hb (Nat.le_refl _)); clear hb; obtain ⟨⟨c0, c1, c2⟩, ⟨d0, d1, d2⟩, ⟨e0, e1, e2⟩⟩ := HCELL.out _ HBd.out) | (go_at_call 12; with_reducible refine (HP.out _ HBd.out).mono ?_; clear c0 c1 c2 d0 d1 d2 e0 e1 e2; rintro e xw ⟨rfl, hb⟩; have HBd := Lib.hid (HBd.out.tr hb (Nat.le_refl _)); clear hb; obtain ⟨⟨c0, c1, c2⟩, ⟨d0, d1, d2⟩, ⟨e0, e1, e2⟩⟩ := HCELL.out _ HBd.out) | (go_at_call 14; with_reducible refine (HNG.out _ HBd.out).mono ?_; clear c0 c1 c2 d0 d1 d2 e0 e1 e2; rintro e xw ⟨rfl, hb⟩; have HBd := Lib.hid (HBd.out.tr hb (Nat.le_refl _)); clear hb; obtain ⟨⟨c0, c1, c2⟩, ⟨d0, d1, d2⟩, ⟨e0, e1, e2⟩⟩ := HCELL.out _ HBd.out) | (go_at_call 25; with_reducible refine (HAG.out _ HBd.out).mono ?_; clear c0 c1 c2 d0 d1 d2 e0 e1 e2; rintro e xw ⟨rfl, hb⟩; have HBd := Lib.hid (HBd.out.tr hb (Nat.le_refl _)); clear hb; obtain ⟨⟨c0, c1, c2⟩, ⟨d0, d1, d2⟩, ⟨e0, e1, e2⟩⟩ := HCELL.out _ HBd.out) | (go_at_call 18; with_reducible refine (HWAK.out _ HBd.out).mono ?_; clear c0 c1 c2 d0 d1 d2 e0 e1 e2; rintro e xw ⟨rfl, hb⟩; have HBd := Lib.hid (HBd.out.tr hb (Nat.le_refl _)); clear hb; obtain ⟨⟨c0, c1, c2⟩, ⟨d0, d1, d2⟩, ⟨e0, e1, e2⟩⟩ := HCELL.out _ HBd.out))
            go_ret
            exact ⟨rfl, HB5.out.tr HBd.out (Nat.le_refl _)⟩
          | false =>
            cases n with
            | true =>
              have hag := HAGR.out rfl rfl rfl
              rw [hag] at HAG
              clear hag HAGR HSTAT
              go_wp2_with (first | (go_at_call 24; (first | with_reducible refine (S6T.out _ HBd.out).mono ?_ | with_reducible refine (S6U.out _ HBd.out).mono ?_); clear c0 c1 c2 d0 d1 d2 e0 e1 e2; rintro e xw ⟨rfl, hb⟩; have HBd := Lib.hid (HBd.out.tr hb (Nat.le_refl _)); clear hb; obtain ⟨⟨c0, c1, c2⟩, ⟨d0, d1, d2⟩, ⟨e0, e1, e2⟩⟩ := HCELL.out _ HBd.out) | (go_at_call 12; with_reducible refine (HP.out _ HBd.out).mono ?_; clear c0 c1 c2 d0 d1 d2 e0 e1 e2; rintro e xw ⟨rfl, hb⟩; have HBd := Lib.hid (HBd.out.tr hb (Nat.le_refl _)); clear hb; obtain ⟨⟨c0, c1, c2⟩, ⟨d0, d1, d2⟩, ⟨e0, e1, e2⟩⟩ := HCELL.out _ HBd.out) | (go_at_call 14; with_reducible refine (HNG.out _ HBd.out).mono ?_; clear c0 c1 c2 d0 d1 d2 e0 e1 e2; rintro e xw ⟨rfl, hb⟩; have HBd := Lib.hid (HBd.out.tr hb (Nat.le_refl _)); clear hb; obtain ⟨⟨c0, c1, c2⟩, ⟨d0, d1, d2⟩, ⟨e0, e1, e2⟩⟩ := HCELL.out _ HBd.out) | (go_at_call 25; with_reducible refine (HAG.out _ HBd.out).mono ?_; clear c0 c1 c2 d0 d1 d2 e0 e1 e2; rintro e xw ⟨rfl, hb⟩; have HBd := Lib.hid (HBd.out.tr hb (Nat.le_refl _)); clear hb; obtain ⟨⟨c0, c1, c2⟩, ⟨d0, d1, d2⟩, ⟨e0, e1, e2⟩⟩ := HCELL.out _ HBd.out) | (go_at_call 18; with_reducible refine (HWAK.out _ HBd.out).mono ?_; clear c0 c1 c2 d0 d1 d2 e0 e1 e2; rintro e xw ⟨rfl, hb⟩; have HBd := Lib.hid (HBd.out.tr hb (Nat.le_refl _)); clear hb; obtain ⟨⟨c0, c1, c2⟩, ⟨d0, d1, d2⟩, ⟨e0, e1, e2⟩⟩ := HCELL.out _ HBd.out))
              go_ret
              exact ⟨rfl, HB5.out.tr HBd.out (Nat.le_refl _)⟩
            | false =>
              go_wp2_with (first | (go_at_call 24; (first | with_reducible refine (S6T.out _ HBd.out).mono ?_ | with_reducible refine (S6U.out _ HBd.out).mono ?_); clear c0 c1 c2 d0 d1 d2 e0 e1 e2; rintro e xw ⟨rfl, hb⟩; have HBd := Lib.hid (HBd.out.tr hb (Nat.le_refl _)); clear hb; obtain ⟨⟨c0, c1, c2⟩, ⟨d0, d1, d2⟩, ⟨e0, e1, e2⟩⟩ := HCELL.out _ HBd.out) | (go_at_call 12; with_reducible refine (HP.out _ HBd.out).mono ?_; clear c0 c1 c2 d0 d1 d2 e0 e1 e2; rintro e xw ⟨rfl, hb⟩; have HBd := Lib.hid (HBd.out.tr hb (Nat.le_refl _)); clear hb; obtain ⟨⟨c0, c1, c2⟩, ⟨d0, d1, d2⟩, ⟨e0, e1, e2⟩⟩ := HCELL.out _ HBd.out) | (go_at_call 14; with_reducible refine (HNG.out _ HBd.out).mono ?_; clear c0 c1 c2 d0 d1 d2 e0 e1 e2; rintro e xw ⟨rfl, hb⟩; have HBd := Lib.hid (HBd.out.tr hb (Nat.le_refl _)); clear hb; obtain ⟨⟨c0, c1, c2⟩, ⟨d0, d1, d2⟩, ⟨e0, e1, e2⟩⟩ := HCELL.out _ HBd.out) | (go_at_call 25; with_reducible refine (HAG.out _ HBd.out).mono ?_; clear c0 c1 c2 d0 d1 d2 e0 e1 e2; rintro e xw ⟨rfl, hb⟩; have HBd := Lib.hid (HBd.out.tr hb (Nat.le_refl _)); clear hb; obtain ⟨⟨c0, c1, c2⟩, ⟨d0, d1, d2⟩, ⟨e0, e1, e2⟩⟩ := HCELL.out _ HBd.out) | (go_at_call 18; with_reducible refine (HWAK.out _ HBd.out).mono ?_; clear c0 c1 c2 d0 d1 d2 e0 e1 e2; rintro e xw ⟨rfl, hb⟩; have HBd := Lib.hid (HBd.out.tr hb (Nat.le_refl _)); clear hb; obtain ⟨⟨c0, c1, c2⟩, ⟨d0, d1, d2⟩, ⟨e0, e1, e2⟩⟩ := HCELL.out _ HBd.out))
              go_ret
              exact ⟨rfl, HB5.out.tr HBd.out (Nat.le_refl _)⟩
    | true =>
      cases w5u with
      | false =>
        go_upto_region 7 with (go_at_call 24; (first | with_reducible refine (S5T.out _ HBd.out).mono ?_ | with_reducible refine (S5U.out _ HBd.out).mono ?_); clear c0 c1 c2 d0 d1 d2 e0 e1 e2; rintro e xw ⟨rfl, hb⟩; have HBd := Lib.hid (HBd.out.tr hb (Nat.le_refl _)); clear hb; obtain ⟨⟨c0, c1, c2⟩, ⟨d0, d1, d2⟩, ⟨e0, e1, e2⟩⟩ := HCELL.out _ HBd.out)
        have HBd := Lib.hid (HBd.out.drew)
        obtain ⟨⟨c0, c1, c2⟩, ⟨d0, d1, d2⟩, ⟨e0, e1, e2⟩⟩ := HCELL.out _ HBd.out
        refine wp_region_seq [(0, false), (0, false), (0, false), (0, false), (1, false), (1, false), (0, true), (0, true), (0, false), (0, false), (0, false), (0, false), (1, false), (1, false), (0, true), (0, true), (0, false), (0, false), (0, false)] (by kernel_rfl) (by kernel_rfl) (by kernel_rfl) (fun _ _ _ d _ h => by cases d <;> exact h) ?_
        repeat
          first
          | (first | with_reducible refine sp0 (fun K hK => ?_) | with_reducible refine sp1 (fun K hK => ?_) | with_reducible refine sp2 (fun K hK => ?_) | with_reducible refine sp3 (fun K hK => ?_) | with_reducible refine sp4 (fun K hK => ?_)
             go_simp
             first
             | (with_reducible refine hK _ _ ?_; clear hK K)
             | (with_reducible apply Exists.intro
                refine ⟨fun x hx => ?_, hK _ _ ?_⟩
                first
                  | (with_reducible exact rfl)
                  | (have y0 := keepc hx c0; have y1 := keepc hx c1; have y2 := keepc hx c2; have y3 := keepc hx d0; have y4 := keepc hx d1; have y5 := keepc hx d2; have y6 := keepc hx e0; have y7 := keepc hx e1; have y8 := keepc hx e2; go_simp; done)
                  | (have y0 := keepc hx c0; have y1 := keepc hx c1; have y2 := keepc hx c2; have y3 := keepc hx d0; have y4 := keepc hx d1; have y5 := keepc hx d2; have y6 := keepc hx e0; have y7 := keepc hx e1; have y8 := keepc hx e2; go_simp; with_reducible exact rfl)
                clear hK K))
          | (first | with_reducible refine sk0 ?_ (fun K hK => ?_) | with_reducible refine sk1 ?_ (fun K hK => ?_) | with_reducible refine sk2 ?_ (fun K hK => ?_) | with_reducible refine sk3 ?_ (fun K hK => ?_) | with_reducible refine sk4 ?_ (fun K hK => ?_)
             rfl
             go_simp
             with_reducible refine hK _ _ ?_
             clear hK K)
        with_reducible refine seq_nil ?_
        cases w6t with
        | false =>
          go_wp2_with (first | (go_at_call 24; (first | with_reducible refine (S6T.out _ HBd.out).mono ?_ | with_reducible refine (S6U.out _ HBd.out).mono ?_); clear c0 c1 c2 d0 d1 d2 e0 e1 e2; rintro e xw ⟨rfl, hb⟩; have HBd := Lib.hid (HBd.out.tr hb (Nat.le_refl _)); clear hb; obtain ⟨⟨c0, c1, c2⟩, ⟨d0, d1, d2⟩, ⟨e0, e1, e2⟩⟩ := HCELL.out _ HBd.out) | (go_at_call 12; with_reducible refine (HP.out _ HBd.out).mono ?_; clear c0 c1 c2 d0 d1 d2 e0 e1 e2; rintro e xw ⟨rfl, hb⟩; have HBd := Lib.hid (HBd.out.tr hb (Nat.le_refl _)); clear hb; obtain ⟨⟨c0, c1, c2⟩, ⟨d0, d1, d2⟩, ⟨e0, e1, e2⟩⟩ := HCELL.out _ HBd.out) | (go_at_call 14; with_reducible refine (HNG.out _ HBd.out).mono ?_; clear c0 c1 c2 d0 d1 d2 e0 e1 e2; rintro e xw ⟨rfl, hb⟩; have HBd := Lib.hid (HBd.out.tr hb (Nat.le_refl _)); clear hb; obtain ⟨⟨c0, c1, c2⟩, ⟨d0, d1, d2⟩, ⟨e0, e1, e2⟩⟩ := HCELL.out _ HBd.out) | (go_at_call 25; with_reducible refine (HAG.out _ HBd.out).mono ?_; clear c0 c1 c2 d0 d1 d2 e0 e1 e2; rintro e xw ⟨rfl, hb⟩; have HBd := Lib.hid (HBd.out.tr hb (Nat.le_refl _)); clear hb; obtain ⟨⟨c0, c1, c2⟩, ⟨d0, d1, d2⟩, ⟨e0, e1, e2⟩⟩ := HCELL.out _ HBd.out) | (go_at_call 18; with_reducible refine (HWAK.out _ HBd.out).mono ?_; clear c0 c1 c2 d0 d1 d2 e0 e1 e2; rintro e xw ⟨rfl, hb⟩; have HBd := Lib.hid (HBd.out.tr hb (Nat.le_refl _)); clear hb; obtain ⟨⟨c0, c1, c2⟩, ⟨d0, d1, d2⟩, ⟨e0, e1, e2⟩⟩ := HCELL.out _ HBd.out))
          go_ret
          exact ⟨rfl, HB5.out.tr HBd.out (Nat.le_refl _)⟩
        | true =>
          cases w6u with
          | false =>
            go_wp2_with (first | (go_at_call 24; (first | with_reducible refine (S6T.out _ HBd.out).mono ?_ | with_reducible refine (S6U.out _ HBd.out).mono ?_); clear c0 c1 c2 d0 d1 d2 e0 e1 e2; rintro e xw ⟨rfl, hb⟩; have HBd := Lib.hid (HBd.out.tr hb (Nat.le_refl _)); clear hb; obtain ⟨⟨c0, c1, c2⟩, ⟨d0, d1, d2⟩, ⟨e0, e1, e2⟩⟩ := HCELL.out _ HBd.out) | (go_at_call 12; with_reducible refine (HP.out _ HBd.out).mono ?_; clear c0 c1 c2 d0 d1 d2 e0 e1 e2; rintro e xw ⟨rfl, hb⟩; have HBd := Lib.hid (HBd.out.tr hb (Nat.le_refl _)); clear hb; obtain ⟨⟨c0, c1, c2⟩, ⟨d0, d1, d2⟩, ⟨e0, e1, e2⟩⟩ := HCELL.out _ HBd.out) | (go_at_call 14; with_reducible refine (HNG.out _ HBd.out).mono ?_; clear c0 c1 c2 d0 d1 d2 e0 e1 e2; rintro e xw ⟨rfl, hb⟩; have HBd := Lib.hid (HBd.out.tr hb (Nat.le_refl _)); clear hb; obtain ⟨⟨c0, c1, c2⟩, ⟨d0, d1, d2⟩, ⟨e0, e1, e2⟩⟩ := HCELL.out _ HBd.out) | (go_at_call 25; with_reducible refine (HAG.out _ HBd.out).mono ?_; clear c0 c1 c2 d0 d1 d2 e0 e1 e2; rintro e xw ⟨rfl, hb⟩; have HBd := Lib.hid (HBd.out.tr hb (Nat.le_refl _)); clear hb; obtain ⟨⟨c0, c1, c2⟩, ⟨d0, d1, d2⟩, ⟨e0, e1, e2⟩⟩ := HCELL.out _ HBd.out) | (go_at_call 18; with_reducible refine (HWAK.out _ HBd.out).mono ?_; clear c0 c1 c2 d0 d1 d2 e0 e1 e2; rintro e xw ⟨rfl, hb⟩; have HBd := Lib.hid (HBd.out.tr hb (Nat.le_refl _)); clear hb; obtain ⟨⟨c0, c1, c2⟩, ⟨d0, d1, d2⟩, ⟨e0, e1, e2⟩⟩ := HCELL.out _ HBd.out))
            go_ret
            exact ⟨rfl, HB5.out.tr HBd.out (Nat.le_refl _)⟩
          | true =>
            cases p with
            | true =>
              have hag := HAGR.out rfl rfl rfl
              rw [hag] at HAG
              clear hag HAGR HSTAT
              go_wp2_with (first | (go_at_call 24; (first | with_reducible refine (S6T.out _ HBd.out).mono ?_ | with_reducible refine (S6U.out _ HBd.out).mono ?_); clear c0 c1 c2 d0 d1 d2 e0 e1 e2; rintro e xw ⟨rfl, hb⟩; have HBd := Lib.hid (HBd.out.tr hb (Nat.le_refl _)); clear hb; obtain ⟨⟨c0, c1, c2⟩, ⟨d0, d1, d2⟩, ⟨e0, e1, e2⟩⟩ := HCELL.out _ HBd.out) | (go_at_call 12; with_reducible refine (HP.out _ HBd.out).mono ?_; clear c0 c1 c2 d0 d1 d2 e0 e1 e2; rintro e xw ⟨rfl, hb⟩; have HBd := Lib.hid (HBd.out.tr hb (Nat.le_refl _)); clear hb; obtain ⟨⟨c0, c1, c2⟩, ⟨d0, d1, d2⟩, ⟨e0, e1, e2⟩⟩ := HCELL.out _ HBd.out) | (go_at_call 14; with_reducible refine (HNG.out _ HBd.out).mono ?_; clear c0 c1 c2 d0 d1 d2 e0 e1 e2; rintro e xw ⟨rfl, hb⟩; have HBd := Lib.hid (HBd.out.tr hb (Nat.le_refl _)); clear hb; obtain ⟨⟨c0, c1, c2⟩, ⟨d0, d1, d2⟩, ⟨e0, e1, e2⟩⟩ := HCELL.out _ HBd.out) | (go_at_call 25; with_reducible refine (HAG.out _ HBd.out).mono ?_; clear c0 c1 c2 d0 d1 d2 e0 e1 e2; rintro e xw ⟨rfl, hb⟩; have HBd := Lib.hid (HBd.out.tr hb (Nat.le_refl _)); clear hb; obtain ⟨⟨c0, c1, c2⟩, ⟨d0, d1, d2⟩, ⟨e0, e1, e2⟩⟩ := HCELL.out _ HBd.out) | (go_at_call 18; with_reducible refine (HWAK.out _ HBd.out).mono ?_; clear c0 c1 c2 d0 d1 d2 e0 e1 e2; rintro e xw ⟨rfl, hb⟩; have HBd := Lib.hid (HBd.out.tr hb (Nat.le_refl _)); clear hb; obtain ⟨⟨c0, c1, c2⟩, ⟨d0, d1, d2⟩, ⟨e0, e1, e2⟩⟩ := HCELL.out _ HBd.out))
              go_ret
              exact ⟨rfl, HB5.out.tr HBd.out (Nat.le_refl _)⟩
            | false =>
              cases n with
              | true =>
                have hag := HAGR.out rfl rfl rfl
                rw [hag] at HAG
                clear hag HAGR HSTAT
                go_wp2_with (first | (go_at_call 24; (first | with_reducible refine (S6T.out _ HBd.out).mono ?_ | with_reducible refine (S6U.out _ HBd.out).mono ?_); clear c0 c1 c2 d0 d1 d2 e0 e1 e2; rintro e xw ⟨rfl, hb⟩; have HBd := Lib.hid (HBd.out.tr hb (Nat.le_refl _)); clear hb; obtain ⟨⟨c0, c1, c2⟩, ⟨d0, d1, d2⟩, ⟨e0, e1, e2⟩⟩ := HCELL.out _ HBd.out) | (go_at_call 12; with_reducible refine (HP.out _ HBd.out).mono ?_; clear c0 c1 c2 d0 d1 d2 e0 e1 e2; rintro e xw ⟨rfl, hb⟩; have HBd := Lib.hid (HBd.out.tr hb (Nat.le_refl _)); clear hb; obtain ⟨⟨c0, c1, c2⟩, ⟨d0, d1, d2⟩, ⟨e0, e1, e2⟩⟩ := HCELL.out _ HBd.out) | (go_at_call 14; with_reducible refine (HNG.out _ HBd.out).mono ?_; clear c0 c1 c2 d0 d1 d2 e0 e1 e2; rintro e xw ⟨rfl, hb⟩; have HBd := Lib.hid (HBd.out.tr hb (Nat.le_refl _)); clear hb; obtain ⟨⟨c0, c1, c2⟩, ⟨d0, d1, d2⟩, ⟨e0, e1, e2⟩⟩ := HCELL.out _ HBd.out) | (go_at_call 25; with_reducible refine (HAG.out _ HBd.out).mono ?_; clear c0 c1 c2 d0 d1 d2 e0 e1 e2; rintro e xw ⟨rfl, hb⟩; have HBd := Lib.hid (HBd.out.tr hb (Nat.le_refl _)); clear hb; obtain ⟨⟨c0, c1, c2⟩, ⟨d0, d1, d2⟩, ⟨e0, e1, e2⟩⟩ := HCELL.out _ HBd.out) | (go_at_call 18; with_reducible refine (HWAK.out _ HBd.out).mono ?_; clear c0 c1 c2 d0 d1 d2 e0 e1 e2; rintro e xw ⟨rfl, hb⟩; have HBd := Lib.hid (HBd.out.tr hb (Nat.le_refl _)); clear hb; obtain ⟨⟨c0, c1, c2⟩, ⟨d0, d1, d2⟩, ⟨e0, e1, e2⟩⟩ := HCELL.out _ HBd.out))
                go_ret
                exact ⟨rfl, HB5.out.tr HBd.out (Nat.le_refl _)⟩
              | false =>
                go_wp2_with (first | (go_at_call 24; (first | with_reducible refine (S6T.out _ HBd.out).mono ?_ | with_reducible refine (S6U.out _ HBd.out).mono ?_); clear c0 c1 c2 d0 d1 d2 e0 e1 e2; rintro e xw ⟨rfl, hb⟩; have HBd := Lib.hid (HBd.out.tr hb (Nat.le_refl _)); clear hb; obtain ⟨⟨c0, c1, c2⟩, ⟨d0, d1, d2⟩, ⟨e0, e1, e2⟩⟩ := HCELL.out _ HBd.out) | (go_at_call 12; with_reducible refine (HP.out _ HBd.out).mono ?_; clear c0 c1 c2 d0 d1 d2 e0 e1 e2; rintro e xw ⟨rfl, hb⟩; have HBd := Lib.hid (HBd.out.tr hb (Nat.le_refl _)); clear hb; obtain ⟨⟨c0, c1, c2⟩, ⟨d0, d1, d2⟩, ⟨e0, e1, e2⟩⟩ := HCELL.out _ HBd.out) | (go_at_call 14; with_reducible refine (HNG.out _ HBd.out).mono ?_; clear c0 c1 c2 d0 d1 d2 e0 e1 e2; rintro e xw ⟨rfl, hb⟩; have HBd := Lib.hid (HBd.out.tr hb (Nat.le_refl _)); clear hb; obtain ⟨⟨c0, c1, c2⟩, ⟨d0, d1, d2⟩, ⟨e0, e1, e2⟩⟩ := HCELL.out _ HBd.out) | (go_at_call 25; with_reducible refine (HAG.out _ HBd.out).mono ?_; clear c0 c1 c2 d0 d1 d2 e0 e1 e2; rintro e xw ⟨rfl, hb⟩; have HBd := Lib.hid (HBd.out.tr hb (Nat.le_refl _)); clear hb; obtain ⟨⟨c0, c1, c2⟩, ⟨d0, d1, d2⟩, ⟨e0, e1, e2⟩⟩ := HCELL.out _ HBd.out) | (go_at_call 18; with_reducible refine (HWAK.out _ HBd.out).mono ?_; clear c0 c1 c2 d0 d1 d2 e0 e1 e2; rintro e xw ⟨rfl, hb⟩; have HBd := Lib.hid (HBd.out.tr hb (Nat.le_refl _)); clear hb; obtain ⟨⟨c0, c1, c2⟩, ⟨d0, d1, d2⟩, ⟨e0, e1, e2⟩⟩ := HCELL.out _ HBd.out))
                go_ret
                exact ⟨rfl, HB5.out.tr HBd.out (Nat.le_refl _)⟩
      | true =>
        go_upto_region 7 with (go_at_call 24; (first | with_reducible refine (S5T.out _ HBd.out).mono ?_ | with_reducible refine (S5U.out _ HBd.out).mono ?_); clear c0 c1 c2 d0 d1 d2 e0 e1 e2; rintro e xw ⟨rfl, hb⟩; have HBd := Lib.hid (HBd.out.tr hb (Nat.le_refl _)); clear hb; obtain ⟨⟨c0, c1, c2⟩, ⟨d0, d1, d2⟩, ⟨e0, e1, e2⟩⟩ := HCELL.out _ HBd.out)
        obtain ⟨rfl, rfl⟩ := HSTAT.out trivial trivial
        have HBd := Lib.hid (HBd.out.drew)
        obtain ⟨⟨c0, c1, c2⟩, ⟨d0, d1, d2⟩, ⟨e0, e1, e2⟩⟩ := HCELL.out _ HBd.out
        refine wp_region_seq [(0, false), (0, false), (0, false), (0, false), (1, false), (1, false), (0, true), (0, true), (0, false), (0, false), (0, false), (0, false), (1, false), (1, false), (0, true), (0, true), (0, false), (0, false), (0, false)] (by kernel_rfl) (by kernel_rfl) (by kernel_rfl) (fun _ _ _ d _ h => by cases d <;> exact h) ?_
        repeat
          first
          | (first | with_reducible refine sp0 (fun K hK => ?_) | with_reducible refine sp1 (fun K hK => ?_) | with_reducible refine sp2 (fun K hK => ?_) | with_reducible refine sp3 (fun K hK => ?_) | with_reducible refine sp4 (fun K hK => ?_)
             go_simp
             first
             | (with_reducible refine hK _ _ ?_; clear hK K)
             | (with_reducible apply Exists.intro
                refine ⟨fun x hx => ?_, hK _ _ ?_⟩
                first
                  | (with_reducible exact rfl)
                  | (have y0 := keepc hx c0; have y1 := keepc hx c1; have y2 := keepc hx c2; have y3 := keepc hx d0; have y4 := keepc hx d1; have y5 := keepc hx d2; have y6 := keepc hx e0; have y7 := keepc hx e1; have y8 := keepc hx e2; go_simp; done)
                  | (have y0 := keepc hx c0; have y1 := keepc hx c1; have y2 := keepc hx c2; have y3 := keepc hx d0; have y4 := keepc hx d1; have y5 := keepc hx d2; have y6 := keepc hx e0; have y7 := keepc hx e1; have y8 := keepc hx e2; go_simp; with_reducible exact rfl)
                clear hK K))
          | (first | with_reducible refine sk0 ?_ (fun K hK => ?_) | with_reducible refine sk1 ?_ (fun K hK => ?_) | with_reducible refine sk2 ?_ (fun K hK => ?_) | with_reducible refine sk3 ?_ (fun K hK => ?_) | with_reducible refine sk4 ?_ (fun K hK => ?_)
             rfl
             go_simp
             with_reducible refine hK _ _ ?_
             clear hK K)
        first | with_reducible refine sc0 (fun K hK => ?_) | with_reducible refine sc1 (fun K hK => ?_) | with_reducible refine sc2 (fun K hK => ?_) | with_reducible refine sc3 (fun K hK => ?_) | with_reducible refine sc4 (fun K hK => ?_)
        go_simp
        refine (HP.out _ HBd.out).mono ?_
        clear c0 c1 c2 d0 d1 d2 e0 e1 e2
        rintro e y0 ⟨rfl, hb9⟩
        refine ⟨hb9, hK _ _ ?_⟩
        clear hK K
        have HY0 := Lib.hid (HBd.out.trans (hb9.mono (HLE.out _ HBd.out)))
        clear hb9
        obtain ⟨⟨c0, c1, c2⟩, ⟨d0, d1, d2⟩, ⟨e0, e1, e2⟩⟩ := HCELL.out y0 HY0.out
        repeat
          first
          | (first | with_reducible refine sp0 (fun K hK => ?_) | with_reducible refine sp1 (fun K hK => ?_) | with_reducible refine sp2 (fun K hK => ?_) | with_reducible refine sp3 (fun K hK => ?_) | with_reducible refine sp4 (fun K hK => ?_)
             go_simp
             first
             | (with_reducible refine hK _ _ ?_; clear hK K)
             | (with_reducible apply Exists.intro
                refine ⟨fun x hx => ?_, hK _ _ ?_⟩
                first
                  | (with_reducible exact rfl)
                  | (have y0 := keepc hx c0; have y1 := keepc hx c1; have y2 := keepc hx c2; have y3 := keepc hx d0; have y4 := keepc hx d1; have y5 := keepc hx d2; have y6 := keepc hx e0; have y7 := keepc hx e1; have y8 := keepc hx e2; go_simp; done)
                  | (have y0 := keepc hx c0; have y1 := keepc hx c1; have y2 := keepc hx c2; have y3 := keepc hx d0; have y4 := keepc hx d1; have y5 := keepc hx d2; have y6 := keepc hx e0; have y7 := keepc hx e1; have y8 := keepc hx e2; go_simp; with_reducible exact rfl)
                clear hK K))
          | (first | with_reducible refine sk0 ?_ (fun K hK => ?_) | with_reducible refine sk1 ?_ (fun K hK => ?_) | with_reducible refine sk2 ?_ (fun K hK => ?_) | with_reducible refine sk3 ?_ (fun K hK => ?_) | with_reducible refine sk4 ?_ (fun K hK => ?_)
             rfl
             go_simp
             with_reducible refine hK _ _ ?_
             clear hK K)
        first | with_reducible refine sc0 (fun K hK => ?_) | with_reducible refine sc1 (fun K hK => ?_) | with_reducible refine sc2 (fun K hK => ?_) | with_reducible refine sc3 (fun K hK => ?_) | with_reducible refine sc4 (fun K hK => ?_)
        go_simp
        refine (HSM.out _ HY0.out).mono ?_
        clear c0 c1 c2 d0 d1 d2 e0 e1 e2
        rintro e y1 ⟨rfl, hb9⟩
        refine ⟨hb9, hK _ _ ?_⟩
        clear hK K
        have HY1 := Lib.hid (HY0.out.trans (hb9.mono (HLE.out _ HY0.out)))
        clear hb9
        obtain ⟨⟨c0, c1, c2⟩, ⟨d0, d1, d2⟩, ⟨e0, e1, e2⟩⟩ := HCELL.out y1 HY1.out
        repeat
          first
          | (first | with_reducible refine sp0 (fun K hK => ?_) | with_reducible refine sp1 (fun K hK => ?_) | with_reducible refine sp2 (fun K hK => ?_) | with_reducible refine sp3 (fun K hK => ?_) | with_reducible refine sp4 (fun K hK => ?_)
             go_simp
             first
             | (with_reducible refine hK _ _ ?_; clear hK K)
             | (with_reducible apply Exists.intro
                refine ⟨fun x hx => ?_, hK _ _ ?_⟩
                first
                  | (with_reducible exact rfl)
                  | (have y0 := keepc hx c0; have y1 := keepc hx c1; have y2 := keepc hx c2; have y3 := keepc hx d0; have y4 := keepc hx d1; have y5 := keepc hx d2; have y6 := keepc hx e0; have y7 := keepc hx e1; have y8 := keepc hx e2; go_simp; done)
                  | (have y0 := keepc hx c0; have y1 := keepc hx c1; have y2 := keepc hx c2; have y3 := keepc hx d0; have y4 := keepc hx d1; have y5 := keepc hx d2; have y6 := keepc hx e0; have y7 := keepc hx e1; have y8 := keepc hx e2; go_simp; with_reducible exact rfl)
                clear hK K))
          | (first | with_reducible refine sk0 ?_ (fun K hK => ?_) | with_reducible refine sk1 ?_ (fun K hK => ?_) | with_reducible refine sk2 ?_ (fun K hK => ?_) | with_reducible refine sk3 ?_ (fun K hK => ?_) | with_reducible refine sk4 ?_ (fun K hK => ?_)
             rfl
             go_simp
             with_reducible refine hK _ _ ?_
             clear hK K)
        first | with_reducible refine sc0 (fun K hK => ?_) | with_reducible refine sc1 (fun K hK => ?_) | with_reducible refine sc2 (fun K hK => ?_) | with_reducible refine sc3 (fun K hK => ?_) | with_reducible refine sc4 (fun K hK => ?_)
        go_simp
        refine (HNG.out _ HY1.out).mono ?_
        clear c0 c1 c2 d0 d1 d2 e0 e1 e2
        rintro e y2 ⟨rfl, hb9⟩
        refine ⟨hb9, hK _ _ ?_⟩
        clear hK K
        have HY2 := Lib.hid (HY1.out.trans (hb9.mono (HLE.out _ HY1.out)))
        clear hb9
        obtain ⟨⟨c0, c1, c2⟩, ⟨d0, d1, d2⟩, ⟨e0, e1, e2⟩⟩ := HCELL.out y2 HY2.out
        repeat
          first
          | (first | with_reducible refine sp0 (fun K hK => ?_) | with_reducible refine sp1 (fun K hK => ?_) | with_reducible refine sp2 (fun K hK => ?_) | with_reducible refine sp3 (fun K hK => ?_) | with_reducible refine sp4 (fun K hK => ?_)
             go_simp
             first
             | (with_reducible refine hK _ _ ?_; clear hK K)
             | (with_reducible apply Exists.intro
                refine ⟨fun x hx => ?_, hK _ _ ?_⟩
                first
                  | (with_reducible exact rfl)
                  | (have y0 := keepc hx c0; have y1 := keepc hx c1; have y2 := keepc hx c2; have y3 := keepc hx d0; have y4 := keepc hx d1; have y5 := keepc hx d2; have y6 := keepc hx e0; have y7 := keepc hx e1; have y8 := keepc hx e2; go_simp; done)
                  | (have y0 := keepc hx c0; have y1 := keepc hx c1; have y2 := keepc hx c2; have y3 := keepc hx d0; have y4 := keepc hx d1; have y5 := keepc hx d2; have y6 := keepc hx e0; have y7 := keepc hx e1; have y8 := keepc hx e2; go_simp; with_reducible exact rfl)
                clear hK K))
          | (first | with_reducible refine sk0 ?_ (fun K hK => ?_) | with_reducible refine sk1 ?_ (fun K hK => ?_) | with_reducible refine sk2 ?_ (fun K hK => ?_) | with_reducible refine sk3 ?_ (fun K hK => ?_) | with_reducible refine sk4 ?_ (fun K hK => ?_)
             rfl
             go_simp
             with_reducible refine hK _ _ ?_
             clear hK K)
        first | with_reducible refine sc0 (fun K hK => ?_) | with_reducible refine sc1 (fun K hK => ?_) | with_reducible refine sc2 (fun K hK => ?_) | with_reducible refine sc3 (fun K hK => ?_) | with_reducible refine sc4 (fun K hK => ?_)
        go_simp
        refine (HSM.out _ HY2.out).mono ?_
        clear c0 c1 c2 d0 d1 d2 e0 e1 e2
        rintro e y3 ⟨rfl, hb9⟩
        refine ⟨hb9, hK _ _ ?_⟩
        clear hK K
        have HY3 := Lib.hid (HY2.out.trans (hb9.mono (HLE.out _ HY2.out)))
        clear hb9
        obtain ⟨⟨c0, c1, c2⟩, ⟨d0, d1, d2⟩, ⟨e0, e1, e2⟩⟩ := HCELL.out y3 HY3.out
        repeat
          first
          | (first | with_reducible refine sp0 (fun K hK => ?_) | with_reducible refine sp1 (fun K hK => ?_) | with_reducible refine sp2 (fun K hK => ?_) | with_reducible refine sp3 (fun K hK => ?_) | with_reducible refine sp4 (fun K hK => ?_)
             go_simp
             first
             | (with_reducible refine hK _ _ ?_; clear hK K)
             | (with_reducible apply Exists.intro
                refine ⟨fun x hx => ?_, hK _ _ ?_⟩
                first
                  | (with_reducible exact rfl)
                  | (have y0 := keepc hx c0; have y1 := keepc hx c1; have y2 := keepc hx c2; have y3 := keepc hx d0; have y4 := keepc hx d1; have y5 := keepc hx d2; have y6 := keepc hx e0; have y7 := keepc hx e1; have y8 := keepc hx e2; go_simp; done)
                  | (have y0 := keepc hx c0; have y1 := keepc hx c1; have y2 := keepc hx c2; have y3 := keepc hx d0; have y4 := keepc hx d1; have y5 := keepc hx d2; have y6 := keepc hx e0; have y7 := keepc hx e1; have y8 := keepc hx e2; go_simp; with_reducible exact rfl)
                clear hK K))
          | (first | with_reducible refine sk0 ?_ (fun K hK => ?_) | with_reducible refine sk1 ?_ (fun K hK => ?_) | with_reducible refine sk2 ?_ (fun K hK => ?_) | with_reducible refine sk3 ?_ (fun K hK => ?_) | with_reducible refine sk4 ?_ (fun K hK => ?_)
             rfl
             go_simp
             with_reducible refine hK _ _ ?_
             clear hK K)
        with_reducible refine seq_nil ?_
        have HBd := HY3
        cases w6t with
        | false =>
          go_wp2_with (first | (go_at_call 24; (first | with_reducible refine (S6T.out _ HBd.out).mono ?_ | with_reducible refine (S6U.out _ HBd.out).mono ?_); clear c0 c1 c2 d0 d1 d2 e0 e1 e2; rintro e xw ⟨rfl, hb⟩; have HBd := Lib.hid (HBd.out.tr hb (Nat.le_refl _)); clear hb; obtain ⟨⟨c0, c1, c2⟩, ⟨d0, d1, d2⟩, ⟨e0, e1, e2⟩⟩ := HCELL.out _ HBd.out) | (go_at_call 12; with_reducible refine (HP.out _ HBd.out).mono ?_; clear c0 c1 c2 d0 d1 d2 e0 e1 e2; rintro e xw ⟨rfl, hb⟩; have HBd := Lib.hid (HBd.out.tr hb (Nat.le_refl _)); clear hb; obtain ⟨⟨c0, c1, c2⟩, ⟨d0, d1, d2⟩, ⟨e0, e1, e2⟩⟩ := HCELL.out _ HBd.out) | (go_at_call 14; with_reducible refine (HNG.out _ HBd.out).mono ?_; clear c0 c1 c2 d0 d1 d2 e0 e1 e2; rintro e xw ⟨rfl, hb⟩; have HBd := Lib.hid (HBd.out.tr hb (Nat.le_refl _)); clear hb; obtain ⟨⟨c0, c1, c2⟩, ⟨d0, d1, d2⟩, ⟨e0, e1, e2⟩⟩ := HCELL.out _ HBd.out) | (go_at_call 25; with_reducible refine (HAG.out _ HBd.out).mono ?_; clear c0 c1 c2 d0 d1 d2 e0 e1 e2; rintro e xw ⟨rfl, hb⟩; have HBd := Lib.hid (HBd.out.tr hb (Nat.le_refl _)); clear hb; obtain ⟨⟨c0, c1, c2⟩, ⟨d0, d1, d2⟩, ⟨e0, e1, e2⟩⟩ := HCELL.out _ HBd.out) | (go_at_call 18; with_reducible refine (HWAK.out _ HBd.out).mono ?_; clear c0 c1 c2 d0 d1 d2 e0 e1 e2; rintro e xw ⟨rfl, hb⟩; have HBd := Lib.hid (HBd.out.tr hb (Nat.le_refl _)); clear hb; obtain ⟨⟨c0, c1, c2⟩, ⟨d0, d1, d2⟩, ⟨e0, e1, e2⟩⟩ := HCELL.out _ HBd.out))
          go_ret
          exact ⟨rfl, HB5.out.tr HBd.out (Nat.le_refl _)⟩
        | true =>
          cases w6u with
          | false =>
            go_wp2_with (first | (go_at_call 24; (first | with_reducible refine (S6T.out _ HBd.out).mono ?_ | with_reducible refine (S6U.out _ HBd.out).mono ?_); clear c0 c1 c2 d0 d1 d2 e0 e1 e2; rintro e xw ⟨rfl, hb⟩; have HBd := Lib.hid (HBd.out.tr hb (Nat.le_refl _)); clear hb; obtain ⟨⟨c0, c1, c2⟩, ⟨d0, d1, d2⟩, ⟨e0, e1, e2⟩⟩ := HCELL.out _ HBd.out) | (go_at_call 12; with_reducible refine (HP.out _ HBd.out).mono ?_; clear c0 c1 c2 d0 d1 d2 e0 e1 e2; rintro e xw ⟨rfl, hb⟩; have HBd := Lib.hid (HBd.out.tr hb (Nat.le_refl _)); clear hb; obtain ⟨⟨c0, c1, c2⟩, ⟨d0, d1, d2⟩, ⟨e0, e1, e2⟩⟩ := HCELL.out _ HBd.out) | (go_at_call 14; with_reducible refine (HNG.out _ HBd.out).mono ?_; clear c0 c1 c2 d0 d1 d2 e0 e1 e2; rintro e xw ⟨rfl, hb⟩; have HBd := Lib.hid (HBd.out.tr hb (Nat.le_refl _)); clear hb; obtain ⟨⟨c0, c1, c2⟩, ⟨d0, d1, d2⟩, ⟨e0, e1, e2⟩⟩ := HCELL.out _ HBd.out) | (go_at_call 25; with_reducible refine (HAG.out _ HBd.out).mono ?_; clear c0 c1 c2 d0 d1 d2 e0 e1 e2; rintro e xw ⟨rfl, hb⟩; have HBd := Lib.hid (HBd.out.tr hb (Nat.le_refl _)); clear hb; obtain ⟨⟨c0, c1, c2⟩, ⟨d0, d1, d2⟩, ⟨e0, e1, e2⟩⟩ := HCELL.out _ HBd.out) | (go_at_call 18; with_reducible refine (HWAK.out _ HBd.out).mono ?_; clear c0 c1 c2 d0 d1 d2 e0 e1 e2; rintro e xw ⟨rfl, hb⟩; have HBd := Lib.hid (HBd.out.tr hb (Nat.le_refl _)); clear hb; obtain ⟨⟨c0, c1, c2⟩, ⟨d0, d1, d2⟩, ⟨e0, e1, e2⟩⟩ := HCELL.out _ HBd.out))
            go_ret
            exact ⟨rfl, HB5.out.tr HBd.out (Nat.le_refl _)⟩
          | true =>
            cases n with
            | true =>
              have hag := HAGR.out rfl rfl rfl
              rw [hag] at HAG
              clear hag HAGR HSTAT
              go_wp2_with (first | (go_at_call 24; (first | with_reducible refine (S6T.out _ HBd.out).mono ?_ | with_reducible refine (S6U.out _ HBd.out).mono ?_); clear c0 c1 c2 d0 d1 d2 e0 e1 e2; rintro e xw ⟨rfl, hb⟩; have HBd := Lib.hid (HBd.out.tr hb (Nat.le_refl _)); clear hb; obtain ⟨⟨c0, c1, c2⟩, ⟨d0, d1, d2⟩, ⟨e0, e1, e2⟩⟩ := HCELL.out _ HBd.out) | (go_at_call 12; with_reducible refine (HP.out _ HBd.out).mono ?_; clear c0 c1 c2 d0 d1 d2 e0 e1 e2; rintro e xw ⟨rfl, hb⟩; have HBd := Lib.hid (HBd.out.tr hb (Nat.le_refl _)); clear hb; obtain ⟨⟨c0, c1, c2⟩, ⟨d0, d1, d2⟩, ⟨e0, e1, e2⟩⟩ := HCELL.out _ HBd.out) | (go_at_call 14; with_reducible refine (HNG.out _ HBd.out).mono ?_; clear c0 c1 c2 d0 d1 d2 e0 e1 e2; rintro e xw ⟨rfl, hb⟩; have HBd := Lib.hid (HBd.out.tr hb (Nat.le_refl _)); clear hb; obtain ⟨⟨c0, c1, c2⟩, ⟨d0, d1, d2⟩, ⟨e0, e1, e2⟩⟩ := HCELL.out _ HBd.out) | (go_at_call 25; with_reducible refine (HAG.out _ HBd.out).mono ?_; clear c0 c1 c2 d0 d1 d2 e0 e1 e2; rintro e xw ⟨rfl, hb⟩; have HBd := Lib.hid (HBd.out.tr hb (Nat.le_refl _)); clear hb; obtain ⟨⟨c0, c1, c2⟩, ⟨d0, d1, d2⟩, ⟨e0, e1, e2⟩⟩ := HCELL.out _ HBd.out) | (go_at_call 18; with_reducible refine (HWAK.out _ HBd.out).mono ?_; clear c0 c1 c2 d0 d1 d2 e0 e1 e2; rintro e xw ⟨rfl, hb⟩; have HBd := Lib.hid (HBd.out.tr hb (Nat.le_refl _)); clear hb; obtain ⟨⟨c0, c1, c2⟩, ⟨d0, d1, d2⟩, ⟨e0, e1, e2⟩⟩ := HCELL.out _ HBd.out))
              go_ret
              exact ⟨rfl, HB5.out.tr HBd.out (Nat.le_refl _)⟩
            | false =>
              go_wp2_with (first | (go_at_call 24; (first | with_reducible refine (S6T.out _ HBd.out).mono ?_ | with_reducible refine (S6U.out _ HBd.out).mono ?_); clear c0 c1 c2 d0 d1 d2 e0 e1 e2; rintro e xw ⟨rfl, hb⟩; have HBd := Lib.hid (HBd.out.tr hb (Nat.le_refl _)); clear hb; obtain ⟨⟨c0, c1, c2⟩, ⟨d0, d1, d2⟩, ⟨e0, e1, e2⟩⟩ := HCELL.out _ HBd.out) | (go_at_call 12; with_reducible refine (HP.out _ HBd.out).mono ?_; clear c0 c1 c2 d0 d1 d2 e0 e1 e2; rintro e xw ⟨rfl, hb⟩; have HBd := Lib.hid (HBd.out.tr hb (Nat.le_refl _)); clear hb; obtain ⟨⟨c0, c1, c2⟩, ⟨d0, d1, d2⟩, ⟨e0, e1, e2⟩⟩ := HCELL.out _ HBd.out) | (go_at_call 14; with_reducible refine (HNG.out _ HBd.out).mono ?_; clear c0 c1 c2 d0 d1 d2 e0 e1 e2; rintro e xw ⟨rfl, hb⟩; have HBd := Lib.hid (HBd.out.tr hb (Nat.le_refl _)); clear hb; obtain ⟨⟨c0, c1, c2⟩, ⟨d0, d1, d2⟩, ⟨e0, e1, e2⟩⟩ := HCELL.out _ HBd.out) | (go_at_call 25; with_reducible refine (HAG.out _ HBd.out).mono ?_; clear c0 c1 c2 d0 d1 d2 e0 e1 e2; rintro e xw ⟨rfl, hb⟩; have HBd := Lib.hid (HBd.out.tr hb (Nat.le_refl _)); clear hb; obtain ⟨⟨c0, c1, c2⟩, ⟨d0, d1, d2⟩, ⟨e0, e1, e2⟩⟩ := HCELL.out _ HBd.out) | (go_at_call 18; with_reducible refine (HWAK.out _ HBd.out).mono ?_; clear c0 c1 c2 d0 d1 d2 e0 e1 e2; rintro e xw ⟨rfl, hb⟩; have HBd := Lib.hid (HBd.out.tr hb (Nat.le_refl _)); clear hb; obtain ⟨⟨c0, c1, c2⟩, ⟨d0, d1, d2⟩, ⟨e0, e1, e2⟩⟩ := HCELL.out _ HBd.out))
              go_ret
              exact ⟨rfl, HB5.out.tr HBd.out (Nat.le_refl _)⟩
end Go.Proofs.Ytafekidkikfpcaa
