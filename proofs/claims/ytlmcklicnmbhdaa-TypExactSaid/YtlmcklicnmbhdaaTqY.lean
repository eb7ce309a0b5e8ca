/- The law TypExact: its walk. -/
import Derived.Test.YtlmcklicnmbhdaaTqW
namespace Go.Proofs.Ytlmcklicnmbhdaa
open Go Go.RowKit
open Tp (T)

theorem vlen_big2 {t : T} (h : Tp.size t ≤ 600) : (Tp.vars t []).length ≤ 1000000 := by have := vlen_le t []; simp at this; omega
/-- A type in a box that was made last. -/
theorem box_last {w2 wx : World} {t : T} {a : Option Addr} {cap : Nat} {k n : Int} {m : Nat} (ht : TyAt (LT w2.heap.size) w2 t a cap) (hw : w2.alloc (.cells #[.int .i64 k, .int .i64 n, .slice a m cap] 24) = wx) :
    (∀ w', Below wx.heap.size wx w' → w'.cell? ⟨w2.heap.size, 0, none⟩ = some (.int .i64 k) ∧ w'.cell? ⟨w2.heap.size, 1, none⟩ = some (.int .i64 n) ∧ w'.cell? ⟨w2.heap.size, 2, none⟩ = some (.slice a m cap)) ∧
    (∀ w', Below wx.heap.size wx w' → TyAt (LT w'.heap.size) w' t a cap) ∧ Below w2.heap.size w2 wx ∧ (∀ w', Below wx.heap.size wx w' → Below w2.heap.size w2 w') := by
  have hnew : wx.heap[w2.heap.size]? = some (.cells #[.int .i64 k, .int .i64 n, .slice a m cap] 24) := by rw [← hw]; exact World.alloc_heap_new w2 _
  have hb : Below w2.heap.size w2 wx := by rw [← hw]; exact (Below.refl _ _).alloc (Nat.le_refl _) _
  exact ⟨fun w' h => cells3 hnew h, fun w' h => ht.below (hb.trans (h.mono hb.size)) (fun _ h => h) (fun _ h2 => Nat.lt_of_lt_of_le h2 (Nat.le_trans hb.size h.size)), hb, fun w' h => hb.trans (h.mono hb.size)⟩
theorem decide_self (L : List Int) : decide (L = L) = true := decide_eq_true rfl

set_option maxRecDepth 100000 in
set_option maxHeartbeats 4000000 in
theorem lexact_any (t : T) (a : Option Addr) (cap : Nat) (u : T) (b : Option Addr) (cap' : Nat) (w : World) (hty : TyAt (LT w.heap.size) w t a cap) (hty' : TyAt (LT w.heap.size) w u b cap') :
    Calls Try.prog 3 #[tv t a cap, tv u b cap'] w fun e w' => e = .returned (.bool true) ∧ Below w.heap.size w w' := by
  obtain ⟨k0, hk0⟩ : ∃ k0, t.kind = k0 := ⟨_, rfl⟩
  obtain ⟨n0, hn0⟩ : ∃ n0, t.num = n0 := ⟨_, rfl⟩
  obtain ⟨m0, hm0⟩ : ∃ m0, t.kids.length = m0 := ⟨_, rfl⟩
  obtain ⟨k9, hk9⟩ : ∃ k0, u.kind = k0 := ⟨_, rfl⟩
  obtain ⟨n9, hn9⟩ : ∃ n0, u.num = n0 := ⟨_, rfl⟩
  obtain ⟨m9, hm9⟩ : ∃ m0, u.kids.length = m0 := ⟨_, rfl⟩
  obtain ⟨hv, hhv⟩ : ∃ hv, decide (600 < Tp.sizes [t, u]) = hv := ⟨_, rfl⟩
  obtain ⟨W0, hW0⟩ : ∃ W, (w.alloc (.cells #[.int .i64 k0, .int .i64 n0, .slice a m0 cap] 24)).alloc (.cells #[.int .i64 k9, .int .i64 n9, .slice b m9 cap'] 24) = W := ⟨_, rfl⟩
  have hsz0 : W0.heap.size = w.heap.size + 2 := by rw [← hW0]; simp
  obtain ⟨hcell, htw, huw, hle, hbw⟩ := box_two hty hty' hW0
  have hhe := fun w1 (hb : Below (w.heap.size + 2) W0 w1) => heavy_any [t, u] (some ⟨w1.heap.size, 0, none⟩) 2 _ (by simp) (row_two (htw w1 hb) (huw w1 hb) hk0 hn0 hm0 hk9 hn9 hm9)
  have hsz : hv = false → Tp.size t ≤ 600 ∧ Tp.size u ≤ 600 := fun h => by
    rw [h, sizes_two] at hhv
    simp only [decide_eq_false_iff_not] at hhv
    refine ⟨?_, ?_⟩ <;> omega
  have hkt := fun w1 (hb : Below (w.heap.size + 2) W0 w1) (h : Tp.size t ≤ 600) => ktype_ty t a cap w1 (sz_le h) (htw w1 hb)
  have hrr := fun w1 (hb : Below (w.heap.size + 2) W0 w1) => rright_any (Tp.size t) t a cap w1 (Nat.le_refl _) (htw w1 hb)
  obtain ⟨rt, hrt⟩ : ∃ x, Tp.right t = x := ⟨_, rfl⟩
  rw [hrt] at hrr
  unfold tv at hkt hrr ⊢
  rw [hhv] at hhe
  simp only [hk0, hn0, hm0] at hkt hrr
  rw [hk0, hn0, hm0, hk9, hn9, hm9]
  have HCELL0 := Lib.hid hcell; have HTW := Lib.hid htw; have HUW := Lib.hid huw; have HLE0 := Lib.hid hle; have HBW := Lib.hid hbw; have HHE := Lib.hid hhe; have HSZ := Lib.hid hsz
  have HK0 := Lib.hid hk0; have HN0 := Lib.hid hn0; have HM0 := Lib.hid hm0; have HK9 := Lib.hid hk9; have HN9 := Lib.hid hn9; have HM9 := Lib.hid hm9
  have HKT := Lib.hid hkt; have HRR := Lib.hid hrr; have HRT := Lib.hid hrt; have HSZ0 := Lib.hid hsz0
  have HB0 := Lib.hid (Below.refl (w.heap.size + 2) W0)
  have HW0 := Lib.hid hW0
  clear hk0 hn0 hm0 hk9 hn9 hm9 hcell htw huw hle hbw hhe hhv hty hty' hsz0 hW0 hsz hkt hrr hrt
  go_enter Try.func3, Try.ntmps3
  go_upto_region 1 with fail
  rw [HW0.out]
  obtain ⟨c0, c1, c2, d0, d1, d2⟩ := HCELL0.out _ HB0.out
  go_wp2_with fail
  refine (HHE.out _ HB0.out).mono ?_
  clear c0 c1 c2 d0 d1 d2
  rintro e w1 ⟨rfl, hb1⟩
  have b1 := (HB0.out.alloc (by rw [HSZ0.out]; exact Nat.le_refl _) _).trans (hb1.mono (by rw [World.size_alloc, HSZ0.out]; exact Nat.le_succ _))
  obtain ⟨c0, c1, c2, d0, d1, d2⟩ := HCELL0.out w1 b1
  have HB1 := Lib.hid b1
  clear b1 hb1
  cases hv
  case true =>
    go_wp2_with fail
    go_ret
    exact ⟨rfl, HBW.out _ HB1.out⟩
  obtain ⟨h6t, h6u⟩ := HSZ.out rfl
  have H6T := Lib.hid h6t; have H6U := Lib.hid h6u
  clear h6t h6u
  go_wp2_with fail
  refine (HKT.out _ HB1.out H6T.out).mono ?_
  clear c0 c1 c2 d0 d1 d2
  rintro e w2 ⟨a3, cap3, rfl, ht3, hb3⟩
  have HB2 := Lib.hid (HB1.out.trans (hb3.mono (HLE0.out _ HB1.out))); have HT3 := Lib.hid ht3
  clear hb3 ht3
  go_upto_region 5 with fail
  generalize hwx : w2.alloc (.cells #[.int .i64 k0, .int .i64 n0, .slice a3 m0 cap3] 24) = wx
  obtain ⟨hx1, hx2, hx3, hx4⟩ := box_last HT3.out hwx
  have hbx : ∀ w', Below wx.heap.size wx w' → Below (w.heap.size + 2) W0 w' := fun w' h => HB2.out.trans ((hx4 w' h).mono (HLE0.out _ HB2.out))
  have hcl : ∀ w', Below wx.heap.size wx w' → w'.cell? ⟨w.heap.size, 0, none⟩ = some (.int .i64 k0) ∧ w'.cell? ⟨w.heap.size, 1, none⟩ = some (.int .i64 n0) ∧ w'.cell? ⟨w.heap.size, 2, none⟩ = some (.slice a m0 cap) ∧
      w'.cell? ⟨w.heap.size + 1, 0, none⟩ = some (.int .i64 k9) ∧ w'.cell? ⟨w.heap.size + 1, 1, none⟩ = some (.int .i64 n9) ∧ w'.cell? ⟨w.heap.size + 1, 2, none⟩ = some (.slice b m9 cap') ∧
      w'.cell? ⟨w2.heap.size, 0, none⟩ = some (.int .i64 k0) ∧ w'.cell? ⟨w2.heap.size, 1, none⟩ = some (.int .i64 n0) ∧ w'.cell? ⟨w2.heap.size, 2, none⟩ = some (.slice a3 m0 cap3) := fun w' h => by
    obtain ⟨e0, e1, e2, e3, e4, e5⟩ := HCELL0.out w' (hbx w' h)
    obtain ⟨e6, e7, e8⟩ := hx1 w' h
    exact ⟨e0, e1, e2, e3, e4, e5, e6, e7, e8⟩
  have hxle : ∀ w', Below wx.heap.size wx w' → wx.heap.size ≤ w'.heap.size := fun w' h => h.size
  have p1 := fun w1 (hb : Below wx.heap.size wx w1) => check_any t a3 cap3 w1 (sz_le H6T.out) (hx2 w1 hb)
  have p2 := fun w1 (hb : Below wx.heap.size wx w1) => same_any t u a3 cap3 b cap' w1 (sz_le H6T.out) (hx2 w1 hb) (HUW.out w1 (hbx w1 hb))
  have p3 := fun w1 (hb : Below wx.heap.size wx w1) => rsame_any (Tp.size t) t u a cap b cap' w1 (Nat.le_refl _) (HTW.out w1 (hbx w1 hb)) (HUW.out w1 (hbx w1 hb))
  have p4 := fun w1 (hb : Below wx.heap.size wx w1) => size_any t a3 cap3 w1 (sz_le H6T.out) (hx2 w1 hb)
  have p5 := fun w1 (hb : Below wx.heap.size wx w1) => rsize_any (Tp.size t) t a cap w1 (Nat.le_refl _) (sz_le H6T.out) (HTW.out w1 (hbx w1 hb))
  have p6 := fun w1 (hb : Below wx.heap.size wx w1) => depth_any t a3 cap3 w1 (sz_le H6T.out) (hx2 w1 hb)
  have p7 := fun w1 (hb : Below wx.heap.size wx w1) => rdepth_any (Tp.size t) t a cap w1 (Nat.le_refl _) (sz_le H6T.out) (HTW.out w1 (hbx w1 hb))
  have p8 := fun w1 (hb : Below wx.heap.size wx w1) => static_any t a3 cap3 w1 (sz_le H6T.out) (hx2 w1 hb)
  have p9 := fun q w1 (hb : Below wx.heap.size wx w1) => rwithout_any q (Tp.size t) t a cap w1 (Nat.le_refl _) (HTW.out w1 (hbx w1 hb))
  have pa := fun w1 (hb : Below wx.heap.size wx w1) => closed_any t a3 cap3 w1 (sz_le H6T.out) (hx2 w1 hb)
  have pb := fun w1 (hb : Below wx.heap.size wx w1) => vars_any t a3 cap3 w1 (sz_le H6T.out) (hx2 w1 hb)
  have pc := fun w1 (hb : Below wx.heap.size wx w1) => rvarsall_any t a cap w1 (sz_le H6T.out) (HTW.out w1 (hbx w1 hb))
  have pd := fun w1 (hb : Below wx.heap.size wx w1) => ksame_any (Tp.size t) t t a3 cap3 a cap w1 (Nat.le_refl _) (hx2 w1 hb) (HTW.out w1 (hbx w1 hb))
  simp only [Tp.same_refl] at pd
  rw [HRT.out] at p1
  generalize Tp.same t u = sm at p2 p3
  unfold tv at p1 p2 p3 p4 p5 p6 p7 p8 p9 pa pb pc pd
  simp only [HK0.out, HN0.out, HM0.out, HK9.out, HN9.out, HM9.out] at p1 p2 p3 p4 p5 p6 p7 p8 p9 pa pb pc pd
  have HCELL := Lib.hid hcl; have HLE := Lib.hid hxle; have HBX := Lib.hid hbx
  have Q1 := Lib.hid p1; have Q2 := Lib.hid p2; have Q3 := Lib.hid p3; have Q4 := Lib.hid p4; have Q5 := Lib.hid p5; have Q6 := Lib.hid p6; have Q7 := Lib.hid p7; have Q8 := Lib.hid p8; have Q9 := Lib.hid p9; have QA := Lib.hid pa; have QB := Lib.hid pb; have QC := Lib.hid pc; have QD := Lib.hid pd
  have HX0 := Lib.hid (Below.refl wx.heap.size wx)
  clear hx1 hx2 hx3 hx4 hbx hcl hxle p1 p2 p3 p4 p5 p6 p7 p8 p9 pa pb pc pd hwx
  obtain ⟨c0, c1, c2, d0, d1, d2, f0, f1, f2⟩ := HCELL.out wx HX0.out
  go_wp2_with fail
  refine (HRR.out _ (HBX.out _ HX0.out)).mono ?_
  clear c0 c1 c2 d0 d1 d2 f0 f1 f2
  rintro e w3 ⟨rfl, hb3⟩
  have HX1 := Lib.hid (HX0.out.trans hb3)
  clear hb3
  go_upto_if 14 with fail
  go_cut [6] (fun v wx9 => v = .int .i64 (errOf rt) ∧ w3 = wx9)
  case first =>
    cases rt <;>
    · go_wp2_with fail
      go_meet
      exact ⟨rfl, rfl⟩
  case rest =>
    obtain ⟨rfl, rfl⟩ := hcut
    go_upto_region 7 with fail
    have HXD := Lib.hid HX1.out.drew
    obtain ⟨c0, c1, c2, d0, d1, d2, f0, f1, f2⟩ := HCELL.out w3.drew HXD.out
    refine wp_region_seq [(0, false), (1, false), (0, true), (0, false), (0, false), (0, false), (0, false), (1, false), (1, false), (0, true), (0, true), (0, false), (0, false), (0, false), (0, false), (1, false), (0, true), (0, true), (0, false), (0, false), (0, false), (0, false), (1, false), (0, true), (0, true), (0, false), (0, false), (0, false), (0, false), (1, false), (0, true), (0, true), (0, false), (0, false), (0, false), (0, false), (1, false), (0, true), (0, true), (0, false), (0, false), (0, false), (0, false), (1, false), (0, true), (0, true), (0, true), (0, false), (0, false), (0, false), (0, false), (0, true), (0, false), (0, false), (0, true), (0, false), (0, false)] (by kernel_rfl) (by kernel_rfl) (by kernel_rfl) (fun _ _ _ d _ h => by cases d <;> exact h) ?_
    repeat
      first
      | (first | with_reducible refine sp0 (fun K hK => ?_) | with_reducible refine sp1 (fun K hK => ?_) | with_reducible refine sp2 (fun K hK => ?_) | with_reducible refine sp3 (fun K hK => ?_) | with_reducible refine sp4 (fun K hK => ?_)
         go_simp
         first
         | (with_reducible refine hK _ _ ?_; clear hK K)
         | (with_reducible apply Exists.intro
            refine ⟨fun x hx => ?_, hK _ _ ?_⟩
            first
              | (with_reducible exact rfl)
              | (have y0 := keepc hx c0; have y1 := keepc hx c1; have y2 := keepc hx c2; have y3 := keepc hx d0; have y4 := keepc hx d1; have y5 := keepc hx d2; have y6 := keepc hx f0; have y7 := keepc hx f1; have y8 := keepc hx f2; go_simp; done)
              | (have y0 := keepc hx c0; have y1 := keepc hx c1; have y2 := keepc hx c2; have y3 := keepc hx d0; have y4 := keepc hx d1; have y5 := keepc hx d2; have y6 := keepc hx f0; have y7 := keepc hx f1; have y8 := keepc hx f2; go_simp; with_reducible exact rfl)
            clear hK K))
      | (first | with_reducible refine sk0 ?_ (fun K hK => ?_) | with_reducible refine sk1 ?_ (fun K hK => ?_) | with_reducible refine sk2 ?_ (fun K hK => ?_) | with_reducible refine sk3 ?_ (fun K hK => ?_) | with_reducible refine sk4 ?_ (fun K hK => ?_)
         rfl
         go_simp
         with_reducible refine hK _ _ ?_
         clear hK K)
    first | with_reducible refine sc0 (fun K hK => ?_) | with_reducible refine sc1 (fun K hK => ?_) | with_reducible refine sc2 (fun K hK => ?_) | with_reducible refine sc3 (fun K hK => ?_) | with_reducible refine sc4 (fun K hK => ?_)
    go_simp
    refine (Q1.out _ HXD.out).mono ?_
    clear c0 c1 c2 d0 d1 d2 f0 f1 f2
    rintro e x0 ⟨rfl, hb9⟩
    refine ⟨hb9, hK _ _ ?_⟩
    clear hK K
    have HX10 := Lib.hid (HXD.out.trans (hb9.mono (HLE.out _ HXD.out)))
    clear hb9
    obtain ⟨c0, c1, c2, d0, d1, d2, f0, f1, f2⟩ := HCELL.out x0 HX10.out
    repeat
      first
      | (first | with_reducible refine sp0 (fun K hK => ?_) | with_reducible refine sp1 (fun K hK => ?_) | with_reducible refine sp2 (fun K hK => ?_) | with_reducible refine sp3 (fun K hK => ?_) | with_reducible refine sp4 (fun K hK => ?_)
         go_simp
         first
         | (with_reducible refine hK _ _ ?_; clear hK K)
         | (with_reducible apply Exists.intro
            refine ⟨fun x hx => ?_, hK _ _ ?_⟩
            first
              | (with_reducible exact rfl)
              | (have y0 := keepc hx c0; have y1 := keepc hx c1; have y2 := keepc hx c2; have y3 := keepc hx d0; have y4 := keepc hx d1; have y5 := keepc hx d2; have y6 := keepc hx f0; have y7 := keepc hx f1; have y8 := keepc hx f2; go_simp; done)
              | (have y0 := keepc hx c0; have y1 := keepc hx c1; have y2 := keepc hx c2; have y3 := keepc hx d0; have y4 := keepc hx d1; have y5 := keepc hx d2; have y6 := keepc hx f0; have y7 := keepc hx f1; have y8 := keepc hx f2; go_simp; with_reducible exact rfl)
            clear hK K))
      | (first | with_reducible refine sk0 ?_ (fun K hK => ?_) | with_reducible refine sk1 ?_ (fun K hK => ?_) | with_reducible refine sk2 ?_ (fun K hK => ?_) | with_reducible refine sk3 ?_ (fun K hK => ?_) | with_reducible refine sk4 ?_ (fun K hK => ?_)
         rfl
         go_simp
         with_reducible refine hK _ _ ?_
         clear hK K)
    first | with_reducible refine sc0 (fun K hK => ?_) | with_reducible refine sc1 (fun K hK => ?_) | with_reducible refine sc2 (fun K hK => ?_) | with_reducible refine sc3 (fun K hK => ?_) | with_reducible refine sc4 (fun K hK => ?_)
    go_simp
    refine (Q2.out _ HX10.out).mono ?_
    clear c0 c1 c2 d0 d1 d2 f0 f1 f2
    rintro e x1 ⟨rfl, hb9⟩
    refine ⟨hb9, hK _ _ ?_⟩
    clear hK K
    have HX11 := Lib.hid (HX10.out.trans (hb9.mono (HLE.out _ HX10.out)))
    clear hb9
    obtain ⟨c0, c1, c2, d0, d1, d2, f0, f1, f2⟩ := HCELL.out x1 HX11.out
    repeat
      first
      | (first | with_reducible refine sp0 (fun K hK => ?_) | with_reducible refine sp1 (fun K hK => ?_) | with_reducible refine sp2 (fun K hK => ?_) | with_reducible refine sp3 (fun K hK => ?_) | with_reducible refine sp4 (fun K hK => ?_)
         go_simp
         first
         | (with_reducible refine hK _ _ ?_; clear hK K)
         | (with_reducible apply Exists.intro
            refine ⟨fun x hx => ?_, hK _ _ ?_⟩
            first
              | (with_reducible exact rfl)
              | (have y0 := keepc hx c0; have y1 := keepc hx c1; have y2 := keepc hx c2; have y3 := keepc hx d0; have y4 := keepc hx d1; have y5 := keepc hx d2; have y6 := keepc hx f0; have y7 := keepc hx f1; have y8 := keepc hx f2; go_simp; done)
              | (have y0 := keepc hx c0; have y1 := keepc hx c1; have y2 := keepc hx c2; have y3 := keepc hx d0; have y4 := keepc hx d1; have y5 := keepc hx d2; have y6 := keepc hx f0; have y7 := keepc hx f1; have y8 := keepc hx f2; go_simp; with_reducible exact rfl)
            clear hK K))
      | (first | with_reducible refine sk0 ?_ (fun K hK => ?_) | with_reducible refine sk1 ?_ (fun K hK => ?_) | with_reducible refine sk2 ?_ (fun K hK => ?_) | with_reducible refine sk3 ?_ (fun K hK => ?_) | with_reducible refine sk4 ?_ (fun K hK => ?_)
         rfl
         go_simp
         with_reducible refine hK _ _ ?_
         clear hK K)
    first | with_reducible refine sc0 (fun K hK => ?_) | with_reducible refine sc1 (fun K hK => ?_) | with_reducible refine sc2 (fun K hK => ?_) | with_reducible refine sc3 (fun K hK => ?_) | with_reducible refine sc4 (fun K hK => ?_)
    go_simp
    refine (Q3.out _ HX11.out).mono ?_
    clear c0 c1 c2 d0 d1 d2 f0 f1 f2
    rintro e x2 ⟨rfl, hb9⟩
    refine ⟨hb9, hK _ _ ?_⟩
    clear hK K
    have HX12 := Lib.hid (HX11.out.trans (hb9.mono (HLE.out _ HX11.out)))
    clear hb9
    obtain ⟨c0, c1, c2, d0, d1, d2, f0, f1, f2⟩ := HCELL.out x2 HX12.out
    repeat
      first
      | (first | with_reducible refine sp0 (fun K hK => ?_) | with_reducible refine sp1 (fun K hK => ?_) | with_reducible refine sp2 (fun K hK => ?_) | with_reducible refine sp3 (fun K hK => ?_) | with_reducible refine sp4 (fun K hK => ?_)
         go_simp
         first
         | (with_reducible refine hK _ _ ?_; clear hK K)
         | (with_reducible apply Exists.intro
            refine ⟨fun x hx => ?_, hK _ _ ?_⟩
            first
              | (with_reducible exact rfl)
              | (have y0 := keepc hx c0; have y1 := keepc hx c1; have y2 := keepc hx c2; have y3 := keepc hx d0; have y4 := keepc hx d1; have y5 := keepc hx d2; have y6 := keepc hx f0; have y7 := keepc hx f1; have y8 := keepc hx f2; go_simp; done)
              | (have y0 := keepc hx c0; have y1 := keepc hx c1; have y2 := keepc hx c2; have y3 := keepc hx d0; have y4 := keepc hx d1; have y5 := keepc hx d2; have y6 := keepc hx f0; have y7 := keepc hx f1; have y8 := keepc hx f2; go_simp; with_reducible exact rfl)
            clear hK K))
      | (first | with_reducible refine sk0 ?_ (fun K hK => ?_) | with_reducible refine sk1 ?_ (fun K hK => ?_) | with_reducible refine sk2 ?_ (fun K hK => ?_) | with_reducible refine sk3 ?_ (fun K hK => ?_) | with_reducible refine sk4 ?_ (fun K hK => ?_)
         rfl
         go_simp
         with_reducible refine hK _ _ ?_
         clear hK K)
    first | with_reducible refine sc0 (fun K hK => ?_) | with_reducible refine sc1 (fun K hK => ?_) | with_reducible refine sc2 (fun K hK => ?_) | with_reducible refine sc3 (fun K hK => ?_) | with_reducible refine sc4 (fun K hK => ?_)
    go_simp
    refine (Q4.out _ HX12.out).mono ?_
    clear c0 c1 c2 d0 d1 d2 f0 f1 f2
    rintro e x3 ⟨rfl, hb9⟩
    refine ⟨hb9, hK _ _ ?_⟩
    clear hK K
    have HX13 := Lib.hid (HX12.out.trans (hb9.mono (HLE.out _ HX12.out)))
    clear hb9
    obtain ⟨c0, c1, c2, d0, d1, d2, f0, f1, f2⟩ := HCELL.out x3 HX13.out
    repeat
      first
      | (first | with_reducible refine sp0 (fun K hK => ?_) | with_reducible refine sp1 (fun K hK => ?_) | with_reducible refine sp2 (fun K hK => ?_) | with_reducible refine sp3 (fun K hK => ?_) | with_reducible refine sp4 (fun K hK => ?_)
         go_simp
         first
         | (with_reducible refine hK _ _ ?_; clear hK K)
         | (with_reducible apply Exists.intro
            refine ⟨fun x hx => ?_, hK _ _ ?_⟩
            first
              | (with_reducible exact rfl)
              | (have y0 := keepc hx c0; have y1 := keepc hx c1; have y2 := keepc hx c2; have y3 := keepc hx d0; have y4 := keepc hx d1; have y5 := keepc hx d2; have y6 := keepc hx f0; have y7 := keepc hx f1; have y8 := keepc hx f2; go_simp; done)
              | (have y0 := keepc hx c0; have y1 := keepc hx c1; have y2 := keepc hx c2; have y3 := keepc hx d0; have y4 := keepc hx d1; have y5 := keepc hx d2; have y6 := keepc hx f0; have y7 := keepc hx f1; have y8 := keepc hx f2; go_simp; with_reducible exact rfl)
            clear hK K))
      | (first | with_reducible refine sk0 ?_ (fun K hK => ?_) | with_reducible refine sk1 ?_ (fun K hK => ?_) | with_reducible refine sk2 ?_ (fun K hK => ?_) | with_reducible refine sk3 ?_ (fun K hK => ?_) | with_reducible refine sk4 ?_ (fun K hK => ?_)
         rfl
         go_simp
         with_reducible refine hK _ _ ?_
         clear hK K)
    first | with_reducible refine sc0 (fun K hK => ?_) | with_reducible refine sc1 (fun K hK => ?_) | with_reducible refine sc2 (fun K hK => ?_) | with_reducible refine sc3 (fun K hK => ?_) | with_reducible refine sc4 (fun K hK => ?_)
    go_simp
    refine (Q5.out _ HX13.out).mono ?_
    clear c0 c1 c2 d0 d1 d2 f0 f1 f2
    rintro e x4 ⟨rfl, hb9⟩
    refine ⟨hb9, hK _ _ ?_⟩
    clear hK K
    have HX14 := Lib.hid (HX13.out.trans (hb9.mono (HLE.out _ HX13.out)))
    clear hb9
    obtain ⟨c0, c1, c2, d0, d1, d2, f0, f1, f2⟩ := HCELL.out x4 HX14.out
    repeat
      first
      | (first | with_reducible refine sp0 (fun K hK => ?_) | with_reducible refine sp1 (fun K hK => ?_) | with_reducible refine sp2 (fun K hK => ?_) | with_reducible refine sp3 (fun K hK => ?_) | with_reducible refine sp4 (fun K hK => ?_)
         go_simp
         first
         | (with_reducible refine hK _ _ ?_; clear hK K)
         | (with_reducible apply Exists.intro
            refine ⟨fun x hx => ?_, hK _ _ ?_⟩
            first
              | (with_reducible exact rfl)
              | (have y0 := keepc hx c0; have y1 := keepc hx c1; have y2 := keepc hx c2; have y3 := keepc hx d0; have y4 := keepc hx d1; have y5 := keepc hx d2; have y6 := keepc hx f0; have y7 := keepc hx f1; have y8 := keepc hx f2; go_simp; done)
              | (have y0 := keepc hx c0; have y1 := keepc hx c1; have y2 := keepc hx c2; have y3 := keepc hx d0; have y4 := keepc hx d1; have y5 := keepc hx d2; have y6 := keepc hx f0; have y7 := keepc hx f1; have y8 := keepc hx f2; go_simp; with_reducible exact rfl)
            clear hK K))
      | (first | with_reducible refine sk0 ?_ (fun K hK => ?_) | with_reducible refine sk1 ?_ (fun K hK => ?_) | with_reducible refine sk2 ?_ (fun K hK => ?_) | with_reducible refine sk3 ?_ (fun K hK => ?_) | with_reducible refine sk4 ?_ (fun K hK => ?_)
         rfl
         go_simp
         with_reducible refine hK _ _ ?_
         clear hK K)
    first | with_reducible refine sc0 (fun K hK => ?_) | with_reducible refine sc1 (fun K hK => ?_) | with_reducible refine sc2 (fun K hK => ?_) | with_reducible refine sc3 (fun K hK => ?_) | with_reducible refine sc4 (fun K hK => ?_)
    go_simp
    refine (Q6.out _ HX14.out).mono ?_
    clear c0 c1 c2 d0 d1 d2 f0 f1 f2
    rintro e x5 ⟨rfl, hb9⟩
    refine ⟨hb9, hK _ _ ?_⟩
    clear hK K
    have HX15 := Lib.hid (HX14.out.trans (hb9.mono (HLE.out _ HX14.out)))
    clear hb9
    obtain ⟨c0, c1, c2, d0, d1, d2, f0, f1, f2⟩ := HCELL.out x5 HX15.out
    repeat
      first
      | (first | with_reducible refine sp0 (fun K hK => ?_) | with_reducible refine sp1 (fun K hK => ?_) | with_reducible refine sp2 (fun K hK => ?_) | with_reducible refine sp3 (fun K hK => ?_) | with_reducible refine sp4 (fun K hK => ?_)
         go_simp
         first
         | (with_reducible refine hK _ _ ?_; clear hK K)
         | (with_reducible apply Exists.intro
            refine ⟨fun x hx => ?_, hK _ _ ?_⟩
            first
              | (with_reducible exact rfl)
              | (have y0 := keepc hx c0; have y1 := keepc hx c1; have y2 := keepc hx c2; have y3 := keepc hx d0; have y4 := keepc hx d1; have y5 := keepc hx d2; have y6 := keepc hx f0; have y7 := keepc hx f1; have y8 := keepc hx f2; go_simp; done)
              | (have y0 := keepc hx c0; have y1 := keepc hx c1; have y2 := keepc hx c2; have y3 := keepc hx d0; have y4 := keepc hx d1; have y5 := keepc hx d2; have y6 := keepc hx f0; have y7 := keepc hx f1; have y8 := keepc hx f2; go_simp; with_reducible exact rfl)
            clear hK K))
      | (first | with_reducible refine sk0 ?_ (fun K hK => ?_) | with_reducible refine sk1 ?_ (fun K hK => ?_) | with_reducible refine sk2 ?_ (fun K hK => ?_) | with_reducible refine sk3 ?_ (fun K hK => ?_) | with_reducible refine sk4 ?_ (fun K hK => ?_)
         rfl
         go_simp
         with_reducible refine hK _ _ ?_
         clear hK K)
    first | with_reducible refine sc0 (fun K hK => ?_) | with_reducible refine sc1 (fun K hK => ?_) | with_reducible refine sc2 (fun K hK => ?_) | with_reducible refine sc3 (fun K hK => ?_) | with_reducible refine sc4 (fun K hK => ?_)
    go_simp
    refine (Q7.out _ HX15.out).mono ?_
    clear c0 c1 c2 d0 d1 d2 f0 f1 f2
    rintro e x6 ⟨rfl, hb9⟩
    refine ⟨hb9, hK _ _ ?_⟩
    clear hK K
    have HX16 := Lib.hid (HX15.out.trans (hb9.mono (HLE.out _ HX15.out)))
    clear hb9
    obtain ⟨c0, c1, c2, d0, d1, d2, f0, f1, f2⟩ := HCELL.out x6 HX16.out
    repeat
      first
      | (first | with_reducible refine sp0 (fun K hK => ?_) | with_reducible refine sp1 (fun K hK => ?_) | with_reducible refine sp2 (fun K hK => ?_) | with_reducible refine sp3 (fun K hK => ?_) | with_reducible refine sp4 (fun K hK => ?_)
         go_simp
         first
         | (with_reducible refine hK _ _ ?_; clear hK K)
         | (with_reducible apply Exists.intro
            refine ⟨fun x hx => ?_, hK _ _ ?_⟩
            first
              | (with_reducible exact rfl)
              | (have y0 := keepc hx c0; have y1 := keepc hx c1; have y2 := keepc hx c2; have y3 := keepc hx d0; have y4 := keepc hx d1; have y5 := keepc hx d2; have y6 := keepc hx f0; have y7 := keepc hx f1; have y8 := keepc hx f2; go_simp; done)
              | (have y0 := keepc hx c0; have y1 := keepc hx c1; have y2 := keepc hx c2; have y3 := keepc hx d0; have y4 := keepc hx d1; have y5 := keepc hx d2; have y6 := keepc hx f0; have y7 := keepc hx f1; have y8 := keepc hx f2; go_simp; with_reducible exact rfl)
            clear hK K))
      | (first | with_reducible refine sk0 ?_ (fun K hK => ?_) | with_reducible refine sk1 ?_ (fun K hK => ?_) | with_reducible refine sk2 ?_ (fun K hK => ?_) | with_reducible refine sk3 ?_ (fun K hK => ?_) | with_reducible refine sk4 ?_ (fun K hK => ?_)
         rfl
         go_simp
         with_reducible refine hK _ _ ?_
         clear hK K)
    first | with_reducible refine sc0 (fun K hK => ?_) | with_reducible refine sc1 (fun K hK => ?_) | with_reducible refine sc2 (fun K hK => ?_) | with_reducible refine sc3 (fun K hK => ?_) | with_reducible refine sc4 (fun K hK => ?_)
    go_simp
    refine (Q8.out _ HX16.out).mono ?_
    clear c0 c1 c2 d0 d1 d2 f0 f1 f2
    rintro e x7 ⟨rfl, hb9⟩
    refine ⟨hb9, hK _ _ ?_⟩
    clear hK K
    have HX17 := Lib.hid (HX16.out.trans (hb9.mono (HLE.out _ HX16.out)))
    clear hb9
    obtain ⟨c0, c1, c2, d0, d1, d2, f0, f1, f2⟩ := HCELL.out x7 HX17.out
    repeat
      first
      | (first | with_reducible refine sp0 (fun K hK => ?_) | with_reducible refine sp1 (fun K hK => ?_) | with_reducible refine sp2 (fun K hK => ?_) | with_reducible refine sp3 (fun K hK => ?_) | with_reducible refine sp4 (fun K hK => ?_)
         go_simp
         first
         | (with_reducible refine hK _ _ ?_; clear hK K)
         | (with_reducible apply Exists.intro
            refine ⟨fun x hx => ?_, hK _ _ ?_⟩
            first
              | (with_reducible exact rfl)
              | (have y0 := keepc hx c0; have y1 := keepc hx c1; have y2 := keepc hx c2; have y3 := keepc hx d0; have y4 := keepc hx d1; have y5 := keepc hx d2; have y6 := keepc hx f0; have y7 := keepc hx f1; have y8 := keepc hx f2; go_simp; done)
              | (have y0 := keepc hx c0; have y1 := keepc hx c1; have y2 := keepc hx c2; have y3 := keepc hx d0; have y4 := keepc hx d1; have y5 := keepc hx d2; have y6 := keepc hx f0; have y7 := keepc hx f1; have y8 := keepc hx f2; go_simp; with_reducible exact rfl)
            clear hK K))
      | (first | with_reducible refine sk0 ?_ (fun K hK => ?_) | with_reducible refine sk1 ?_ (fun K hK => ?_) | with_reducible refine sk2 ?_ (fun K hK => ?_) | with_reducible refine sk3 ?_ (fun K hK => ?_) | with_reducible refine sk4 ?_ (fun K hK => ?_)
         rfl
         go_simp
         with_reducible refine hK _ _ ?_
         clear hK K)
    first | with_reducible refine sc0 (fun K hK => ?_) | with_reducible refine sc1 (fun K hK => ?_) | with_reducible refine sc2 (fun K hK => ?_) | with_reducible refine sc3 (fun K hK => ?_) | with_reducible refine sc4 (fun K hK => ?_)
    go_simp
    refine (Q9.out 5 _ HX17.out).mono ?_
    clear c0 c1 c2 d0 d1 d2 f0 f1 f2
    rintro e x8 ⟨rfl, hb9⟩
    refine ⟨hb9, hK _ _ ?_⟩
    clear hK K
    have HX18 := Lib.hid (HX17.out.trans (hb9.mono (HLE.out _ HX17.out)))
    clear hb9
    obtain ⟨c0, c1, c2, d0, d1, d2, f0, f1, f2⟩ := HCELL.out x8 HX18.out
    repeat
      first
      | (first | with_reducible refine sp0 (fun K hK => ?_) | with_reducible refine sp1 (fun K hK => ?_) | with_reducible refine sp2 (fun K hK => ?_) | with_reducible refine sp3 (fun K hK => ?_) | with_reducible refine sp4 (fun K hK => ?_)
         go_simp
         first
         | (with_reducible refine hK _ _ ?_; clear hK K)
         | (with_reducible apply Exists.intro
            refine ⟨fun x hx => ?_, hK _ _ ?_⟩
            first
              | (with_reducible exact rfl)
              | (have y0 := keepc hx c0; have y1 := keepc hx c1; have y2 := keepc hx c2; have y3 := keepc hx d0; have y4 := keepc hx d1; have y5 := keepc hx d2; have y6 := keepc hx f0; have y7 := keepc hx f1; have y8 := keepc hx f2; go_simp; done)
              | (have y0 := keepc hx c0; have y1 := keepc hx c1; have y2 := keepc hx c2; have y3 := keepc hx d0; have y4 := keepc hx d1; have y5 := keepc hx d2; have y6 := keepc hx f0; have y7 := keepc hx f1; have y8 := keepc hx f2; go_simp; with_reducible exact rfl)
            clear hK K))
      | (first | with_reducible refine sk0 ?_ (fun K hK => ?_) | with_reducible refine sk1 ?_ (fun K hK => ?_) | with_reducible refine sk2 ?_ (fun K hK => ?_) | with_reducible refine sk3 ?_ (fun K hK => ?_) | with_reducible refine sk4 ?_ (fun K hK => ?_)
         rfl
         go_simp
         with_reducible refine hK _ _ ?_
         clear hK K)
    first | with_reducible refine sc0 (fun K hK => ?_) | with_reducible refine sc1 (fun K hK => ?_) | with_reducible refine sc2 (fun K hK => ?_) | with_reducible refine sc3 (fun K hK => ?_) | with_reducible refine sc4 (fun K hK => ?_)
    go_simp
    refine (QA.out _ HX18.out).mono ?_
    clear c0 c1 c2 d0 d1 d2 f0 f1 f2
    rintro e x9 ⟨rfl, hb9⟩
    refine ⟨hb9, hK _ _ ?_⟩
    clear hK K
    have HX19 := Lib.hid (HX18.out.trans (hb9.mono (HLE.out _ HX18.out)))
    clear hb9
    obtain ⟨c0, c1, c2, d0, d1, d2, f0, f1, f2⟩ := HCELL.out x9 HX19.out
    repeat
      first
      | (first | with_reducible refine sp0 (fun K hK => ?_) | with_reducible refine sp1 (fun K hK => ?_) | with_reducible refine sp2 (fun K hK => ?_) | with_reducible refine sp3 (fun K hK => ?_) | with_reducible refine sp4 (fun K hK => ?_)
         go_simp
         first
         | (with_reducible refine hK _ _ ?_; clear hK K)
         | (with_reducible apply Exists.intro
            refine ⟨fun x hx => ?_, hK _ _ ?_⟩
            first
              | (with_reducible exact rfl)
              | (have y0 := keepc hx c0; have y1 := keepc hx c1; have y2 := keepc hx c2; have y3 := keepc hx d0; have y4 := keepc hx d1; have y5 := keepc hx d2; have y6 := keepc hx f0; have y7 := keepc hx f1; have y8 := keepc hx f2; go_simp; done)
              | (have y0 := keepc hx c0; have y1 := keepc hx c1; have y2 := keepc hx c2; have y3 := keepc hx d0; have y4 := keepc hx d1; have y5 := keepc hx d2; have y6 := keepc hx f0; have y7 := keepc hx f1; have y8 := keepc hx f2; go_simp; with_reducible exact rfl)
            clear hK K))
      | (first | with_reducible refine sk0 ?_ (fun K hK => ?_) | with_reducible refine sk1 ?_ (fun K hK => ?_) | with_reducible refine sk2 ?_ (fun K hK => ?_) | with_reducible refine sk3 ?_ (fun K hK => ?_) | with_reducible refine sk4 ?_ (fun K hK => ?_)
         rfl
         go_simp
         with_reducible refine hK _ _ ?_
         clear hK K)
    first | with_reducible refine sc0 (fun K hK => ?_) | with_reducible refine sc1 (fun K hK => ?_) | with_reducible refine sc2 (fun K hK => ?_) | with_reducible refine sc3 (fun K hK => ?_) | with_reducible refine sc4 (fun K hK => ?_)
    go_simp
    refine (Q9.out 6 _ HX19.out).mono ?_
    clear c0 c1 c2 d0 d1 d2 f0 f1 f2
    rintro e x10 ⟨rfl, hb9⟩
    refine ⟨hb9, hK _ _ ?_⟩
    clear hK K
    have HX20 := Lib.hid (HX19.out.trans (hb9.mono (HLE.out _ HX19.out)))
    clear hb9
    obtain ⟨c0, c1, c2, d0, d1, d2, f0, f1, f2⟩ := HCELL.out x10 HX20.out
    repeat
      first
      | (first | with_reducible refine sp0 (fun K hK => ?_) | with_reducible refine sp1 (fun K hK => ?_) | with_reducible refine sp2 (fun K hK => ?_) | with_reducible refine sp3 (fun K hK => ?_) | with_reducible refine sp4 (fun K hK => ?_)
         go_simp
         first
         | (with_reducible refine hK _ _ ?_; clear hK K)
         | (with_reducible apply Exists.intro
            refine ⟨fun x hx => ?_, hK _ _ ?_⟩
            first
              | (with_reducible exact rfl)
              | (have y0 := keepc hx c0; have y1 := keepc hx c1; have y2 := keepc hx c2; have y3 := keepc hx d0; have y4 := keepc hx d1; have y5 := keepc hx d2; have y6 := keepc hx f0; have y7 := keepc hx f1; have y8 := keepc hx f2; go_simp; done)
              | (have y0 := keepc hx c0; have y1 := keepc hx c1; have y2 := keepc hx c2; have y3 := keepc hx d0; have y4 := keepc hx d1; have y5 := keepc hx d2; have y6 := keepc hx f0; have y7 := keepc hx f1; have y8 := keepc hx f2; go_simp; with_reducible exact rfl)
            clear hK K))
      | (first | with_reducible refine sk0 ?_ (fun K hK => ?_) | with_reducible refine sk1 ?_ (fun K hK => ?_) | with_reducible refine sk2 ?_ (fun K hK => ?_) | with_reducible refine sk3 ?_ (fun K hK => ?_) | with_reducible refine sk4 ?_ (fun K hK => ?_)
         rfl
         go_simp
         with_reducible refine hK _ _ ?_
         clear hK K)
    first | with_reducible refine sc0 (fun K hK => ?_) | with_reducible refine sc1 (fun K hK => ?_) | with_reducible refine sc2 (fun K hK => ?_) | with_reducible refine sc3 (fun K hK => ?_) | with_reducible refine sc4 (fun K hK => ?_)
    go_simp
    refine (QB.out _ HX20.out).mono ?_
    clear c0 c1 c2 d0 d1 d2 f0 f1 f2
    rintro e y1 ⟨v1, rfl, own1, hb⟩
    obtain ⟨a6, c6, rfl⟩ := own_shape' own1
    refine ⟨hb, hK _ _ ?_⟩
    clear hK K
    have HR1 := Lib.hid (IntRow.of_own own1).2; have HY1 := Lib.hid (HX20.out.trans (hb.mono (HLE.out _ HX20.out)))
    clear own1 hb
    obtain ⟨c0, c1, c2, d0, d1, d2, f0, f1, f2⟩ := HCELL.out y1 HY1.out
    repeat
      first
      | (first | with_reducible refine sp0 (fun K hK => ?_) | with_reducible refine sp1 (fun K hK => ?_) | with_reducible refine sp2 (fun K hK => ?_) | with_reducible refine sp3 (fun K hK => ?_) | with_reducible refine sp4 (fun K hK => ?_)
         go_simp
         first
         | (with_reducible refine hK _ _ ?_; clear hK K)
         | (with_reducible apply Exists.intro
            refine ⟨fun x hx => ?_, hK _ _ ?_⟩
            first
              | (with_reducible exact rfl)
              | (have y0 := keepc hx c0; have y1 := keepc hx c1; have y2 := keepc hx c2; have y3 := keepc hx d0; have y4 := keepc hx d1; have y5 := keepc hx d2; have y6 := keepc hx f0; have y7 := keepc hx f1; have y8 := keepc hx f2; go_simp; done)
              | (have y0 := keepc hx c0; have y1 := keepc hx c1; have y2 := keepc hx c2; have y3 := keepc hx d0; have y4 := keepc hx d1; have y5 := keepc hx d2; have y6 := keepc hx f0; have y7 := keepc hx f1; have y8 := keepc hx f2; go_simp; with_reducible exact rfl)
            clear hK K))
      | (first | with_reducible refine sk0 ?_ (fun K hK => ?_) | with_reducible refine sk1 ?_ (fun K hK => ?_) | with_reducible refine sk2 ?_ (fun K hK => ?_) | with_reducible refine sk3 ?_ (fun K hK => ?_) | with_reducible refine sk4 ?_ (fun K hK => ?_)
         rfl
         go_simp
         with_reducible refine hK _ _ ?_
         clear hK K)
    first | with_reducible refine sc0 (fun K hK => ?_) | with_reducible refine sc1 (fun K hK => ?_) | with_reducible refine sc2 (fun K hK => ?_) | with_reducible refine sc3 (fun K hK => ?_) | with_reducible refine sc4 (fun K hK => ?_)
    go_simp
    refine (QC.out _ HY1.out).mono ?_
    clear c0 c1 c2 d0 d1 d2 f0 f1 f2
    rintro e y2 ⟨v2, rfl, own2, hb⟩
    obtain ⟨a7, c7, rfl⟩ := own_shape' own2
    refine ⟨hb, hK _ _ ?_⟩
    clear hK K
    have HR2 := Lib.hid (IntRow.of_own own2).2; have HR1' := Lib.hid (HR1.out.below hb (Nat.le_refl _)); have HY2 := Lib.hid (HY1.out.trans (hb.mono (HLE.out _ HY1.out)))
    have hin := ints_any (Tp.vars t []) (Tp.vars t []) a6 c6 a7 c7 y2 (vlen_big2 H6T.out) (vlen_big2 H6T.out) HR1'.out HR2.out
    rw [decide_eq_true rfl] at hin
    have HIN := Lib.hid hin
    clear own2 hb hin
    obtain ⟨c0, c1, c2, d0, d1, d2, f0, f1, f2⟩ := HCELL.out y2 HY2.out
    repeat
      first
      | (first | with_reducible refine sp0 (fun K hK => ?_) | with_reducible refine sp1 (fun K hK => ?_) | with_reducible refine sp2 (fun K hK => ?_) | with_reducible refine sp3 (fun K hK => ?_) | with_reducible refine sp4 (fun K hK => ?_)
         go_simp
         first
         | (with_reducible refine hK _ _ ?_; clear hK K)
         | (with_reducible apply Exists.intro
            refine ⟨fun x hx => ?_, hK _ _ ?_⟩
            first
              | (with_reducible exact rfl)
              | (have y0 := keepc hx c0; have y1 := keepc hx c1; have y2 := keepc hx c2; have y3 := keepc hx d0; have y4 := keepc hx d1; have y5 := keepc hx d2; have y6 := keepc hx f0; have y7 := keepc hx f1; have y8 := keepc hx f2; go_simp; done)
              | (have y0 := keepc hx c0; have y1 := keepc hx c1; have y2 := keepc hx c2; have y3 := keepc hx d0; have y4 := keepc hx d1; have y5 := keepc hx d2; have y6 := keepc hx f0; have y7 := keepc hx f1; have y8 := keepc hx f2; go_simp; with_reducible exact rfl)
            clear hK K))
      | (first | with_reducible refine sk0 ?_ (fun K hK => ?_) | with_reducible refine sk1 ?_ (fun K hK => ?_) | with_reducible refine sk2 ?_ (fun K hK => ?_) | with_reducible refine sk3 ?_ (fun K hK => ?_) | with_reducible refine sk4 ?_ (fun K hK => ?_)
         rfl
         go_simp
         with_reducible refine hK _ _ ?_
         clear hK K)
    first | with_reducible refine sc0 (fun K hK => ?_) | with_reducible refine sc1 (fun K hK => ?_) | with_reducible refine sc2 (fun K hK => ?_) | with_reducible refine sc3 (fun K hK => ?_) | with_reducible refine sc4 (fun K hK => ?_)
    go_simp
    refine (HIN.out).mono ?_
    clear c0 c1 c2 d0 d1 d2 f0 f1 f2
    rintro e y3 ⟨rfl, hb⟩
    refine ⟨hb, hK _ _ ?_⟩
    clear hK K
    have HY3 := Lib.hid (HY2.out.trans (hb.mono (HLE.out _ HY2.out)))
    clear hb
    obtain ⟨c0, c1, c2, d0, d1, d2, f0, f1, f2⟩ := HCELL.out y3 HY3.out
    repeat
      first
      | (first | with_reducible refine sp0 (fun K hK => ?_) | with_reducible refine sp1 (fun K hK => ?_) | with_reducible refine sp2 (fun K hK => ?_) | with_reducible refine sp3 (fun K hK => ?_) | with_reducible refine sp4 (fun K hK => ?_)
         go_simp
         first
         | (with_reducible refine hK _ _ ?_; clear hK K)
         | (with_reducible apply Exists.intro
            refine ⟨fun x hx => ?_, hK _ _ ?_⟩
            first
              | (with_reducible exact rfl)
              | (have y0 := keepc hx c0; have y1 := keepc hx c1; have y2 := keepc hx c2; have y3 := keepc hx d0; have y4 := keepc hx d1; have y5 := keepc hx d2; have y6 := keepc hx f0; have y7 := keepc hx f1; have y8 := keepc hx f2; go_simp; done)
              | (have y0 := keepc hx c0; have y1 := keepc hx c1; have y2 := keepc hx c2; have y3 := keepc hx d0; have y4 := keepc hx d1; have y5 := keepc hx d2; have y6 := keepc hx f0; have y7 := keepc hx f1; have y8 := keepc hx f2; go_simp; with_reducible exact rfl)
            clear hK K))
      | (first | with_reducible refine sk0 ?_ (fun K hK => ?_) | with_reducible refine sk1 ?_ (fun K hK => ?_) | with_reducible refine sk2 ?_ (fun K hK => ?_) | with_reducible refine sk3 ?_ (fun K hK => ?_) | with_reducible refine sk4 ?_ (fun K hK => ?_)
         rfl
         go_simp
         with_reducible refine hK _ _ ?_
         clear hK K)
    first | with_reducible refine sc0 (fun K hK => ?_) | with_reducible refine sc1 (fun K hK => ?_) | with_reducible refine sc2 (fun K hK => ?_) | with_reducible refine sc3 (fun K hK => ?_) | with_reducible refine sc4 (fun K hK => ?_)
    go_simp
    refine (QD.out _ HY3.out).mono ?_
    clear c0 c1 c2 d0 d1 d2 f0 f1 f2
    rintro e y4 ⟨rfl, hb9⟩
    refine ⟨hb9, hK _ _ ?_⟩
    clear hK K
    have HY4 := Lib.hid (HY3.out.trans (hb9.mono (HLE.out _ HY3.out)))
    clear hb9
    obtain ⟨c0, c1, c2, d0, d1, d2, f0, f1, f2⟩ := HCELL.out y4 HY4.out
    repeat
      first
      | (first | with_reducible refine sp0 (fun K hK => ?_) | with_reducible refine sp1 (fun K hK => ?_) | with_reducible refine sp2 (fun K hK => ?_) | with_reducible refine sp3 (fun K hK => ?_) | with_reducible refine sp4 (fun K hK => ?_)
         go_simp
         first
         | (with_reducible refine hK _ _ ?_; clear hK K)
         | (with_reducible apply Exists.intro
            refine ⟨fun x hx => ?_, hK _ _ ?_⟩
            first
              | (with_reducible exact rfl)
              | (have y0 := keepc hx c0; have y1 := keepc hx c1; have y2 := keepc hx c2; have y3 := keepc hx d0; have y4 := keepc hx d1; have y5 := keepc hx d2; have y6 := keepc hx f0; have y7 := keepc hx f1; have y8 := keepc hx f2; go_simp; done)
              | (have y0 := keepc hx c0; have y1 := keepc hx c1; have y2 := keepc hx c2; have y3 := keepc hx d0; have y4 := keepc hx d1; have y5 := keepc hx d2; have y6 := keepc hx f0; have y7 := keepc hx f1; have y8 := keepc hx f2; go_simp; with_reducible exact rfl)
            clear hK K))
      | (first | with_reducible refine sk0 ?_ (fun K hK => ?_) | with_reducible refine sk1 ?_ (fun K hK => ?_) | with_reducible refine sk2 ?_ (fun K hK => ?_) | with_reducible refine sk3 ?_ (fun K hK => ?_) | with_reducible refine sk4 ?_ (fun K hK => ?_)
         rfl
         go_simp
         with_reducible refine hK _ _ ?_
         clear hK K)
    first | with_reducible refine sc0 (fun K hK => ?_) | with_reducible refine sc1 (fun K hK => ?_) | with_reducible refine sc2 (fun K hK => ?_) | with_reducible refine sc3 (fun K hK => ?_) | with_reducible refine sc4 (fun K hK => ?_)
    go_simp
    refine (wakes_any y4).mono ?_
    clear c0 c1 c2 d0 d1 d2 f0 f1 f2
    rintro e y5 ⟨rfl, hb⟩
    refine ⟨hb, hK _ _ ?_⟩
    clear hK K
    have HY5 := Lib.hid (HY4.out.trans (hb.mono (HLE.out _ HY4.out)))
    clear hb
    repeat
      first
      | (first | with_reducible refine sp0 (fun K hK => ?_) | with_reducible refine sp1 (fun K hK => ?_) | with_reducible refine sp2 (fun K hK => ?_) | with_reducible refine sp3 (fun K hK => ?_) | with_reducible refine sp4 (fun K hK => ?_)
         go_simp
         first
         | (with_reducible refine hK _ _ ?_; clear hK K)
         | (with_reducible apply Exists.intro
            refine ⟨fun x hx => ?_, hK _ _ ?_⟩
            first
              | (with_reducible exact rfl)
            clear hK K))
      | (first | with_reducible refine sk0 ?_ (fun K hK => ?_) | with_reducible refine sk1 ?_ (fun K hK => ?_) | with_reducible refine sk2 ?_ (fun K hK => ?_) | with_reducible refine sk3 ?_ (fun K hK => ?_) | with_reducible refine sk4 ?_ (fun K hK => ?_)
         rfl
         go_simp
         with_reducible refine hK _ _ ?_
         clear hK K)
    with_reducible refine seq_nil ?_
    go_wp2_with fail
    go_ret
    exact ⟨rfl, HBW.out _ (HBX.out _ HY5.out)⟩
end Go.Proofs.Ytlmcklicnmbhdaa
