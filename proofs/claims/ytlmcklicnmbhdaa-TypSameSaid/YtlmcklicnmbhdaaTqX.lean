/- The law TypSame: its walk. -/
import Derived.Test.YtlmcklicnmbhdaaTqW
namespace Go.Proofs.Ytlmcklicnmbhdaa
open Go Go.RowKit
open Tp (T)

theorem vlen_big {t : T} (h : Tp.size t ≤ 600) : (Tp.vars t []).length ≤ 1000000 := by have := vlen_le t []; simp at this; omega
set_option maxRecDepth 100000 in
set_option maxHeartbeats 1000000 in
theorem lsame_any (t : T) (a : Option Addr) (cap : Nat) (u : T) (b : Option Addr) (cap' : Nat) (v : T) (c : Option Addr) (cap2 : Nat) (w : World) (hty : TyAt (LT w.heap.size) w t a cap) (hty' : TyAt (LT w.heap.size) w u b cap') (hty2 : TyAt (LT w.heap.size) w v c cap2) :
    Calls Try.prog 4 #[tv t a cap, tv u b cap', tv v c cap2] w fun e w' => e = .returned (.bool true) ∧ Below w.heap.size w w' := by
  obtain ⟨k0, hk0⟩ : ∃ k0, t.kind = k0 := ⟨_, rfl⟩
  obtain ⟨n0, hn0⟩ : ∃ n0, t.num = n0 := ⟨_, rfl⟩
  obtain ⟨m0, hm0⟩ : ∃ m0, t.kids.length = m0 := ⟨_, rfl⟩
  obtain ⟨k9, hk9⟩ : ∃ k0, u.kind = k0 := ⟨_, rfl⟩
  obtain ⟨n9, hn9⟩ : ∃ n0, u.num = n0 := ⟨_, rfl⟩
  obtain ⟨m9, hm9⟩ : ∃ m0, u.kids.length = m0 := ⟨_, rfl⟩
  obtain ⟨k8, hk8⟩ : ∃ k0, v.kind = k0 := ⟨_, rfl⟩
  obtain ⟨n8, hn8⟩ : ∃ n0, v.num = n0 := ⟨_, rfl⟩
  obtain ⟨m8, hm8⟩ : ∃ m0, v.kids.length = m0 := ⟨_, rfl⟩
  obtain ⟨hv, hhv⟩ : ∃ hv, decide (600 < Tp.sizes [t, u, v]) = hv := ⟨_, rfl⟩
  obtain ⟨W0, hW0⟩ : ∃ W, ((w.alloc (.cells #[.int .i64 k0, .int .i64 n0, .slice a m0 cap] 24)).alloc (.cells #[.int .i64 k9, .int .i64 n9, .slice b m9 cap'] 24)).alloc (.cells #[.int .i64 k8, .int .i64 n8, .slice c m8 cap2] 24) = W := ⟨_, rfl⟩
  obtain ⟨hcell, htw, huw, hvw, hle, hbw, hsz0⟩ := box_three hty hty' hty2 hW0
  have hhe := fun w1 (hb : Below (w.heap.size + 3) W0 w1) => heavy_any [t, u, v] (some ⟨w1.heap.size, 0, none⟩) 3 _ (by simp) (row_three (htw w1 hb) (huw w1 hb) (hvw w1 hb) hk0 hn0 hm0 hk9 hn9 hm9 hk8 hn8 hm8)
  obtain ⟨sab, hsab⟩ : ∃ x, Tp.same t u = x := ⟨_, rfl⟩
  obtain ⟨sbc, hsbc⟩ : ∃ x, Tp.same u v = x := ⟨_, rfl⟩
  obtain ⟨sac, hsac⟩ : ∃ x, Tp.same t v = x := ⟨_, rfl⟩
  have htrans : sab = true → sbc = true → sac = true := fun h1 h2 => by
    rw [← hsac, Tp.same_iff]
    exact ((Tp.same_iff t u).1 (hsab.trans h1)).trans ((Tp.same_iff u v).1 (hsbc.trans h2))
  have hsame : sab = true → t = u := fun h => (Tp.same_iff t u).1 (hsab.trans h)
  have hsz : hv = false → Tp.size t ≤ 600 ∧ Tp.size u ≤ 600 ∧ Tp.size v ≤ 600 := fun h => by
    rw [h, sizes_three] at hhv
    simp only [decide_eq_false_iff_not] at hhv
    refine ⟨?_, ?_, ?_⟩ <;> omega
  have haa := fun w1 (hb : Below (w.heap.size + 3) W0 w1) (h : Tp.size t ≤ 600) => same_any t t a cap a cap w1 (sz_le h) (htw w1 hb) (htw w1 hb)
  have hax := fun w1 (hb : Below (w.heap.size + 3) W0 w1) (h : Tp.size t ≤ 600) a' c' (hx : TyAt (LT w1.heap.size) w1 t a' c') => same_any t t a cap a' c' w1 (sz_le h) (htw w1 hb) hx
  have hab := fun w1 (hb : Below (w.heap.size + 3) W0 w1) (h : Tp.size t ≤ 600) => same_any t u a cap b cap' w1 (sz_le h) (htw w1 hb) (huw w1 hb)
  have hba := fun w1 (hb : Below (w.heap.size + 3) W0 w1) (h : Tp.size u ≤ 600) => same_any u t b cap' a cap w1 (sz_le h) (huw w1 hb) (htw w1 hb)
  have hbc := fun w1 (hb : Below (w.heap.size + 3) W0 w1) (h : Tp.size u ≤ 600) => same_any u v b cap' c cap2 w1 (sz_le h) (huw w1 hb) (hvw w1 hb)
  have hac := fun w1 (hb : Below (w.heap.size + 3) W0 w1) (h : Tp.size t ≤ 600) => same_any t v a cap c cap2 w1 (sz_le h) (htw w1 hb) (hvw w1 hb)
  have hkt := fun w1 (hb : Below (w.heap.size + 3) W0 w1) (h : Tp.size t ≤ 600) => ktype_ty t a cap w1 (sz_le h) (htw w1 hb)
  have hta := fun w1 (hb : Below (w.heap.size + 3) W0 w1) (h : Tp.size t ≤ 600) => size_any t a cap w1 (sz_le h) (htw w1 hb)
  have htb := fun w1 (hb : Below (w.heap.size + 3) W0 w1) (h : Tp.size u ≤ 600) => size_any u b cap' w1 (sz_le h) (huw w1 hb)
  have hda := fun w1 (hb : Below (w.heap.size + 3) W0 w1) (h : Tp.size t ≤ 600) => depth_any t a cap w1 (sz_le h) (htw w1 hb)
  have hdb := fun w1 (hb : Below (w.heap.size + 3) W0 w1) (h : Tp.size u ≤ 600) => depth_any u b cap' w1 (sz_le h) (huw w1 hb)
  have hca := fun w1 (hb : Below (w.heap.size + 3) W0 w1) (h : Tp.size t ≤ 600) => check_any t a cap w1 (sz_le h) (htw w1 hb)
  have hcb := fun w1 (hb : Below (w.heap.size + 3) W0 w1) (h : Tp.size u ≤ 600) => check_any u b cap' w1 (sz_le h) (huw w1 hb)
  have hva := fun w1 (hb : Below (w.heap.size + 3) W0 w1) (h : Tp.size t ≤ 600) => vars_any t a cap w1 (sz_le h) (htw w1 hb)
  have hvb := fun w1 (hb : Below (w.heap.size + 3) W0 w1) (h : Tp.size u ≤ 600) => vars_any u b cap' w1 (sz_le h) (huw w1 hb)
  rw [Tp.same_refl] at haa
  simp only [Tp.same_refl] at hax
  rw [hsab] at hab
  rw [Tp.same_comm, hsab] at hba
  rw [hsbc] at hbc
  rw [hsac] at hac
  unfold tv at haa hax hab hba hbc hac hkt hta htb hda hdb hca hcb hva hvb ⊢
  rw [hhv] at hhe
  simp only [hk0, hn0, hm0, hk9, hn9, hm9, hk8, hn8, hm8] at haa hax hab hba hbc hac hkt hta htb hda hdb hca hcb hva hvb
  rw [hk0, hn0, hm0, hk9, hn9, hm9, hk8, hn8, hm8]
  have HCELL := Lib.hid hcell; have HLE := Lib.hid hle; have HBW := Lib.hid hbw; have HHE := Lib.hid hhe; have HSZ := Lib.hid hsz
  have HAA := Lib.hid haa; have HAX := Lib.hid hax; have HAB := Lib.hid hab; have HBA := Lib.hid hba; have HBC := Lib.hid hbc; have HAC := Lib.hid hac; have HKT := Lib.hid hkt
  have HTA := Lib.hid hta; have HTB := Lib.hid htb; have HDA := Lib.hid hda; have HDB := Lib.hid hdb; have HCA := Lib.hid hca; have HCB := Lib.hid hcb; have HVA := Lib.hid hva; have HVB := Lib.hid hvb
  have HTR := Lib.hid htrans; have HSM := Lib.hid hsame; have HSZ0 := Lib.hid hsz0
  have HB0 := Lib.hid (Below.refl (w.heap.size + 3) W0)
  have HW0 := Lib.hid hW0
  clear hk0 hn0 hm0 hk9 hn9 hm9 hk8 hn8 hm8 hcell htw huw hvw hle hbw hhe hhv hty hty' hty2 hsz0 hW0 hsab hsbc hsac htrans hsame hsz haa hax hab hba hbc hac hkt hta htb hda hdb hca hcb hva hvb
  go_enter Try.func4, Try.ntmps4
  go_upto_region 1 with fail
  rw [HW0.out]
  obtain ⟨c0, c1, c2, d0, d1, d2, f0, f1, f2⟩ := HCELL.out _ HB0.out
  go_wp2_with fail
  refine (HHE.out _ HB0.out).mono ?_
  clear c0 c1 c2 d0 d1 d2 f0 f1 f2
  rintro e w1 ⟨rfl, hb1⟩
  have b1 := (HB0.out.alloc (by rw [HSZ0.out]; exact Nat.le_refl _) _).trans (hb1.mono (by rw [World.size_alloc, HSZ0.out]; exact Nat.le_succ _))
  obtain ⟨c0, c1, c2, d0, d1, d2, f0, f1, f2⟩ := HCELL.out w1 b1
  have HB1 := Lib.hid b1
  clear b1 hb1
  cases hv
  case true =>
    go_wp2_with fail
    go_ret
    exact ⟨rfl, HBW.out _ HB1.out⟩
  obtain ⟨h6t, h6u, h6v⟩ := HSZ.out rfl
  have H6T := Lib.hid h6t; have H6U := Lib.hid h6u
  clear h6t h6u h6v
  go_upto_region 3 with fail
  have HB1d := Lib.hid HB1.out.drew
  obtain ⟨c0, c1, c2, d0, d1, d2, f0, f1, f2⟩ := HCELL.out w1.drew HB1d.out
  refine wp_region_seq [(0, false), (0, false), (0, true), (0, false), (0, false), (0, false), (0, false), (0, true), (0, true), (0, false), (0, false), (0, false), (0, false), (0, false), (1, false), (1, false), (0, true), (0, true), (0, false), (0, false), (0, false), (0, false), (0, false), (0, true), (0, false), (0, false), (0, false), (0, true), (0, false), (0, false), (0, false), (0, false), (0, true), (0, false), (0, false), (0, false)] (by kernel_rfl) (by kernel_rfl) (by kernel_rfl) (fun _ _ _ d _ h => by cases d <;> exact h) ?_
  repeat
    first
    | (first | with_reducible refine sp0 (fun K hK => ?_) | with_reducible refine sp1 (fun K hK => ?_) | with_reducible refine sp2 (fun K hK => ?_) | with_reducible refine sp3 (fun K hK => ?_) | with_reducible refine sp4 (fun K hK => ?_)
       go_simp
       first
       | (with_reducible refine hK _ _ ?_; clear hK K)
       | (with_reducible apply Exists.intro
          refine ⟨fun x hx => ?_, hK _ _ ?_⟩
          first
            | (with_reducible exact rfl)
            | (have y0 := keepc hx c0; have y1 := keepc hx c1; have y2 := keepc hx c2; have y3 := keepc hx d0; have y4 := keepc hx d1; have y5 := keepc hx d2; have y6 := keepc hx f0; have y7 := keepc hx f1; have y8 := keepc hx f2; go_simp; done)
            | (have y0 := keepc hx c0; have y1 := keepc hx c1; have y2 := keepc hx c2; have y3 := keepc hx d0; have y4 := keepc hx d1; have y5 := keepc hx d2; have y6 := keepc hx f0; have y7 := keepc hx f1; have y8 := keepc hx f2; go_simp; with_reducible exact rfl)
          clear hK K))
    | (first | with_reducible refine sk0 ?_ (fun K hK => ?_) | with_reducible refine sk1 ?_ (fun K hK => ?_) | with_reducible refine sk2 ?_ (fun K hK => ?_) | with_reducible refine sk3 ?_ (fun K hK => ?_) | with_reducible refine sk4 ?_ (fun K hK => ?_)
       rfl
       go_simp
       with_reducible refine hK _ _ ?_
       clear hK K)
  first | with_reducible refine sc0 (fun K hK => ?_) | with_reducible refine sc1 (fun K hK => ?_) | with_reducible refine sc2 (fun K hK => ?_) | with_reducible refine sc3 (fun K hK => ?_) | with_reducible refine sc4 (fun K hK => ?_)
  go_simp
  refine (HAA.out _ HB1d.out H6T.out).mono ?_
  clear c0 c1 c2 d0 d1 d2 f0 f1 f2
  rintro e w2 ⟨rfl, hb9⟩
  refine ⟨hb9, hK _ _ ?_⟩
  clear hK K
  have HB2 := Lib.hid (HB1d.out.trans (hb9.mono (HLE.out _ HB1d.out)))
  clear hb9
  obtain ⟨c0, c1, c2, d0, d1, d2, f0, f1, f2⟩ := HCELL.out w2 HB2.out
  repeat
    first
    | (first | with_reducible refine sp0 (fun K hK => ?_) | with_reducible refine sp1 (fun K hK => ?_) | with_reducible refine sp2 (fun K hK => ?_) | with_reducible refine sp3 (fun K hK => ?_) | with_reducible refine sp4 (fun K hK => ?_)
       go_simp
       first
       | (with_reducible refine hK _ _ ?_; clear hK K)
       | (with_reducible apply Exists.intro
          refine ⟨fun x hx => ?_, hK _ _ ?_⟩
          first
            | (with_reducible exact rfl)
            | (have y0 := keepc hx c0; have y1 := keepc hx c1; have y2 := keepc hx c2; have y3 := keepc hx d0; have y4 := keepc hx d1; have y5 := keepc hx d2; have y6 := keepc hx f0; have y7 := keepc hx f1; have y8 := keepc hx f2; go_simp; done)
            | (have y0 := keepc hx c0; have y1 := keepc hx c1; have y2 := keepc hx c2; have y3 := keepc hx d0; have y4 := keepc hx d1; have y5 := keepc hx d2; have y6 := keepc hx f0; have y7 := keepc hx f1; have y8 := keepc hx f2; go_simp; with_reducible exact rfl)
          clear hK K))
    | (first | with_reducible refine sk0 ?_ (fun K hK => ?_) | with_reducible refine sk1 ?_ (fun K hK => ?_) | with_reducible refine sk2 ?_ (fun K hK => ?_) | with_reducible refine sk3 ?_ (fun K hK => ?_) | with_reducible refine sk4 ?_ (fun K hK => ?_)
       rfl
       go_simp
       with_reducible refine hK _ _ ?_
       clear hK K)
  first | with_reducible refine sc0 (fun K hK => ?_) | with_reducible refine sc1 (fun K hK => ?_) | with_reducible refine sc2 (fun K hK => ?_) | with_reducible refine sc3 (fun K hK => ?_) | with_reducible refine sc4 (fun K hK => ?_)
  go_simp
  refine (HKT.out _ HB2.out H6T.out).mono ?_
  clear c0 c1 c2 d0 d1 d2 f0 f1 f2
  rintro e w3 ⟨a3, cap3, rfl, ht3, hb3⟩
  refine ⟨hb3, hK _ _ ?_⟩
  clear hK K
  have HB3 := Lib.hid (HB2.out.trans (hb3.mono (HLE.out _ HB2.out))); have HT3 := Lib.hid ht3
  clear hb3 ht3
  obtain ⟨c0, c1, c2, d0, d1, d2, f0, f1, f2⟩ := HCELL.out w3 HB3.out
  repeat
    first
    | (first | with_reducible refine sp0 (fun K hK => ?_) | with_reducible refine sp1 (fun K hK => ?_) | with_reducible refine sp2 (fun K hK => ?_) | with_reducible refine sp3 (fun K hK => ?_) | with_reducible refine sp4 (fun K hK => ?_)
       go_simp
       first
       | (with_reducible refine hK _ _ ?_; clear hK K)
       | (with_reducible apply Exists.intro
          refine ⟨fun x hx => ?_, hK _ _ ?_⟩
          first
            | (with_reducible exact rfl)
            | (have y0 := keepc hx c0; have y1 := keepc hx c1; have y2 := keepc hx c2; have y3 := keepc hx d0; have y4 := keepc hx d1; have y5 := keepc hx d2; have y6 := keepc hx f0; have y7 := keepc hx f1; have y8 := keepc hx f2; go_simp; done)
            | (have y0 := keepc hx c0; have y1 := keepc hx c1; have y2 := keepc hx c2; have y3 := keepc hx d0; have y4 := keepc hx d1; have y5 := keepc hx d2; have y6 := keepc hx f0; have y7 := keepc hx f1; have y8 := keepc hx f2; go_simp; with_reducible exact rfl)
          clear hK K))
    | (first | with_reducible refine sk0 ?_ (fun K hK => ?_) | with_reducible refine sk1 ?_ (fun K hK => ?_) | with_reducible refine sk2 ?_ (fun K hK => ?_) | with_reducible refine sk3 ?_ (fun K hK => ?_) | with_reducible refine sk4 ?_ (fun K hK => ?_)
       rfl
       go_simp
       with_reducible refine hK _ _ ?_
       clear hK K)
  first | with_reducible refine sc0 (fun K hK => ?_) | with_reducible refine sc1 (fun K hK => ?_) | with_reducible refine sc2 (fun K hK => ?_) | with_reducible refine sc3 (fun K hK => ?_) | with_reducible refine sc4 (fun K hK => ?_)
  go_simp
  refine (HAX.out _ HB3.out H6T.out _ _ HT3.out).mono ?_
  clear c0 c1 c2 d0 d1 d2 f0 f1 f2
  rintro e w4 ⟨rfl, hb9⟩
  refine ⟨hb9, hK _ _ ?_⟩
  clear hK K
  have HB4 := Lib.hid (HB3.out.trans (hb9.mono (HLE.out _ HB3.out)))
  clear hb9
  obtain ⟨c0, c1, c2, d0, d1, d2, f0, f1, f2⟩ := HCELL.out w4 HB4.out
  repeat
    first
    | (first | with_reducible refine sp0 (fun K hK => ?_) | with_reducible refine sp1 (fun K hK => ?_) | with_reducible refine sp2 (fun K hK => ?_) | with_reducible refine sp3 (fun K hK => ?_) | with_reducible refine sp4 (fun K hK => ?_)
       go_simp
       first
       | (with_reducible refine hK _ _ ?_; clear hK K)
       | (with_reducible apply Exists.intro
          refine ⟨fun x hx => ?_, hK _ _ ?_⟩
          first
            | (with_reducible exact rfl)
            | (have y0 := keepc hx c0; have y1 := keepc hx c1; have y2 := keepc hx c2; have y3 := keepc hx d0; have y4 := keepc hx d1; have y5 := keepc hx d2; have y6 := keepc hx f0; have y7 := keepc hx f1; have y8 := keepc hx f2; go_simp; done)
            | (have y0 := keepc hx c0; have y1 := keepc hx c1; have y2 := keepc hx c2; have y3 := keepc hx d0; have y4 := keepc hx d1; have y5 := keepc hx d2; have y6 := keepc hx f0; have y7 := keepc hx f1; have y8 := keepc hx f2; go_simp; with_reducible exact rfl)
          clear hK K))
    | (first | with_reducible refine sk0 ?_ (fun K hK => ?_) | with_reducible refine sk1 ?_ (fun K hK => ?_) | with_reducible refine sk2 ?_ (fun K hK => ?_) | with_reducible refine sk3 ?_ (fun K hK => ?_) | with_reducible refine sk4 ?_ (fun K hK => ?_)
       rfl
       go_simp
       with_reducible refine hK _ _ ?_
       clear hK K)
  first | with_reducible refine sc0 (fun K hK => ?_) | with_reducible refine sc1 (fun K hK => ?_) | with_reducible refine sc2 (fun K hK => ?_) | with_reducible refine sc3 (fun K hK => ?_) | with_reducible refine sc4 (fun K hK => ?_)
  go_simp
  refine (HAB.out _ HB4.out H6T.out).mono ?_
  clear c0 c1 c2 d0 d1 d2 f0 f1 f2
  rintro e w5 ⟨rfl, hb9⟩
  refine ⟨hb9, hK _ _ ?_⟩
  clear hK K
  have HB5 := Lib.hid (HB4.out.trans (hb9.mono (HLE.out _ HB4.out)))
  clear hb9
  obtain ⟨c0, c1, c2, d0, d1, d2, f0, f1, f2⟩ := HCELL.out w5 HB5.out
  repeat
    first
    | (first | with_reducible refine sp0 (fun K hK => ?_) | with_reducible refine sp1 (fun K hK => ?_) | with_reducible refine sp2 (fun K hK => ?_) | with_reducible refine sp3 (fun K hK => ?_) | with_reducible refine sp4 (fun K hK => ?_)
       go_simp
       first
       | (with_reducible refine hK _ _ ?_; clear hK K)
       | (with_reducible apply Exists.intro
          refine ⟨fun x hx => ?_, hK _ _ ?_⟩
          first
            | (with_reducible exact rfl)
            | (have y0 := keepc hx c0; have y1 := keepc hx c1; have y2 := keepc hx c2; have y3 := keepc hx d0; have y4 := keepc hx d1; have y5 := keepc hx d2; have y6 := keepc hx f0; have y7 := keepc hx f1; have y8 := keepc hx f2; go_simp; done)
            | (have y0 := keepc hx c0; have y1 := keepc hx c1; have y2 := keepc hx c2; have y3 := keepc hx d0; have y4 := keepc hx d1; have y5 := keepc hx d2; have y6 := keepc hx f0; have y7 := keepc hx f1; have y8 := keepc hx f2; go_simp; with_reducible exact rfl)
          clear hK K))
    | (first | with_reducible refine sk0 ?_ (fun K hK => ?_) | with_reducible refine sk1 ?_ (fun K hK => ?_) | with_reducible refine sk2 ?_ (fun K hK => ?_) | with_reducible refine sk3 ?_ (fun K hK => ?_) | with_reducible refine sk4 ?_ (fun K hK => ?_)
       rfl
       go_simp
       with_reducible refine hK _ _ ?_
       clear hK K)
  first | with_reducible refine sc0 (fun K hK => ?_) | with_reducible refine sc1 (fun K hK => ?_) | with_reducible refine sc2 (fun K hK => ?_) | with_reducible refine sc3 (fun K hK => ?_) | with_reducible refine sc4 (fun K hK => ?_)
  go_simp
  refine (HBA.out _ HB5.out H6U.out).mono ?_
  clear c0 c1 c2 d0 d1 d2 f0 f1 f2
  rintro e w6 ⟨rfl, hb9⟩
  refine ⟨hb9, hK _ _ ?_⟩
  clear hK K
  have HB6 := Lib.hid (HB5.out.trans (hb9.mono (HLE.out _ HB5.out)))
  clear hb9
  obtain ⟨c0, c1, c2, d0, d1, d2, f0, f1, f2⟩ := HCELL.out w6 HB6.out
  repeat
    first
    | (first | with_reducible refine sp0 (fun K hK => ?_) | with_reducible refine sp1 (fun K hK => ?_) | with_reducible refine sp2 (fun K hK => ?_) | with_reducible refine sp3 (fun K hK => ?_) | with_reducible refine sp4 (fun K hK => ?_)
       go_simp
       first
       | (with_reducible refine hK _ _ ?_; clear hK K)
       | (with_reducible apply Exists.intro
          refine ⟨fun x hx => ?_, hK _ _ ?_⟩
          first
            | (with_reducible exact rfl)
            | (have y0 := keepc hx c0; have y1 := keepc hx c1; have y2 := keepc hx c2; have y3 := keepc hx d0; have y4 := keepc hx d1; have y5 := keepc hx d2; have y6 := keepc hx f0; have y7 := keepc hx f1; have y8 := keepc hx f2; go_simp; done)
            | (have y0 := keepc hx c0; have y1 := keepc hx c1; have y2 := keepc hx c2; have y3 := keepc hx d0; have y4 := keepc hx d1; have y5 := keepc hx d2; have y6 := keepc hx f0; have y7 := keepc hx f1; have y8 := keepc hx f2; go_simp; with_reducible exact rfl)
          clear hK K))
    | (first | with_reducible refine sk0 ?_ (fun K hK => ?_) | with_reducible refine sk1 ?_ (fun K hK => ?_) | with_reducible refine sk2 ?_ (fun K hK => ?_) | with_reducible refine sk3 ?_ (fun K hK => ?_) | with_reducible refine sk4 ?_ (fun K hK => ?_)
       rfl
       go_simp
       with_reducible refine hK _ _ ?_
       clear hK K)
  first | with_reducible refine sc0 (fun K hK => ?_) | with_reducible refine sc1 (fun K hK => ?_) | with_reducible refine sc2 (fun K hK => ?_) | with_reducible refine sc3 (fun K hK => ?_) | with_reducible refine sc4 (fun K hK => ?_)
  go_simp
  refine (HAB.out _ HB6.out H6T.out).mono ?_
  clear c0 c1 c2 d0 d1 d2 f0 f1 f2
  rintro e w7 ⟨rfl, hb9⟩
  refine ⟨hb9, hK _ _ ?_⟩
  clear hK K
  have HB7 := Lib.hid (HB6.out.trans (hb9.mono (HLE.out _ HB6.out)))
  clear hb9
  obtain ⟨c0, c1, c2, d0, d1, d2, f0, f1, f2⟩ := HCELL.out w7 HB7.out
  cases sab
  · skip
    repeat
      first
      | (first | with_reducible refine sp0 (fun K hK => ?_) | with_reducible refine sp1 (fun K hK => ?_) | with_reducible refine sp2 (fun K hK => ?_) | with_reducible refine sp3 (fun K hK => ?_) | with_reducible refine sp4 (fun K hK => ?_)
         go_simp
         first
         | (with_reducible refine hK _ _ ?_; clear hK K)
         | (with_reducible apply Exists.intro
            refine ⟨fun x hx => ?_, hK _ _ ?_⟩
            first
              | (with_reducible exact rfl)
              | (have y0 := keepc hx c0; have y1 := keepc hx c1; have y2 := keepc hx c2; have y3 := keepc hx d0; have y4 := keepc hx d1; have y5 := keepc hx d2; have y6 := keepc hx f0; have y7 := keepc hx f1; have y8 := keepc hx f2; go_simp; done)
              | (have y0 := keepc hx c0; have y1 := keepc hx c1; have y2 := keepc hx c2; have y3 := keepc hx d0; have y4 := keepc hx d1; have y5 := keepc hx d2; have y6 := keepc hx f0; have y7 := keepc hx f1; have y8 := keepc hx f2; go_simp; with_reducible exact rfl)
            clear hK K))
      | (first | with_reducible refine sk0 ?_ (fun K hK => ?_) | with_reducible refine sk1 ?_ (fun K hK => ?_) | with_reducible refine sk2 ?_ (fun K hK => ?_) | with_reducible refine sk3 ?_ (fun K hK => ?_) | with_reducible refine sk4 ?_ (fun K hK => ?_)
         rfl
         go_simp
         with_reducible refine hK _ _ ?_
         clear hK K)
    with_reducible refine seq_nil ?_
    clear c0 c1 c2 d0 d1 d2 f0 f1 f2
    go_upto_region 5 with fail
    have HB7d := Lib.hid HB7.out.drew
    obtain ⟨c0, c1, c2, d0, d1, d2, f0, f1, f2⟩ := HCELL.out w7.drew HB7d.out
    refine wp_region_seq [(0, false), (0, false), (0, true), (0, false), (0, false), (1, false), (0, true), (0, true), (0, false), (0, false), (0, false), (1, false), (0, true), (0, true), (0, false), (0, false), (0, false), (0, false), (1, false), (0, true), (0, true), (0, false), (0, false), (0, false), (0, false), (1, false), (0, true), (0, true), (0, true), (0, false), (0, false), (0, false)] (by kernel_rfl) (by kernel_rfl) (by kernel_rfl) (fun _ _ _ d _ h => by cases d <;> exact h) ?_
    repeat
      first
      | (first | with_reducible refine sp0 (fun K hK => ?_) | with_reducible refine sp1 (fun K hK => ?_) | with_reducible refine sp2 (fun K hK => ?_) | with_reducible refine sp3 (fun K hK => ?_) | with_reducible refine sp4 (fun K hK => ?_)
         go_simp
         first
         | (with_reducible refine hK _ _ ?_; clear hK K)
         | (with_reducible apply Exists.intro
            refine ⟨fun x hx => ?_, hK _ _ ?_⟩
            first
              | (with_reducible exact rfl)
              | (have y0 := keepc hx c0; have y1 := keepc hx c1; have y2 := keepc hx c2; have y3 := keepc hx d0; have y4 := keepc hx d1; have y5 := keepc hx d2; have y6 := keepc hx f0; have y7 := keepc hx f1; have y8 := keepc hx f2; go_simp; done)
              | (have y0 := keepc hx c0; have y1 := keepc hx c1; have y2 := keepc hx c2; have y3 := keepc hx d0; have y4 := keepc hx d1; have y5 := keepc hx d2; have y6 := keepc hx f0; have y7 := keepc hx f1; have y8 := keepc hx f2; go_simp; with_reducible exact rfl)
            clear hK K))
      | (first | with_reducible refine sk0 ?_ (fun K hK => ?_) | with_reducible refine sk1 ?_ (fun K hK => ?_) | with_reducible refine sk2 ?_ (fun K hK => ?_) | with_reducible refine sk3 ?_ (fun K hK => ?_) | with_reducible refine sk4 ?_ (fun K hK => ?_)
         rfl
         go_simp
         with_reducible refine hK _ _ ?_
         clear hK K)
    first | with_reducible refine sc0 (fun K hK => ?_) | with_reducible refine sc1 (fun K hK => ?_) | with_reducible refine sc2 (fun K hK => ?_) | with_reducible refine sc3 (fun K hK => ?_) | with_reducible refine sc4 (fun K hK => ?_)
    go_simp
    refine (HAB.out _ HB7d.out H6T.out).mono ?_
    clear c0 c1 c2 d0 d1 d2 f0 f1 f2
    rintro e w8 ⟨rfl, hb9⟩
    refine ⟨hb9, hK _ _ ?_⟩
    clear hK K
    have HB8 := Lib.hid (HB7d.out.trans (hb9.mono (HLE.out _ HB7d.out)))
    clear hb9
    obtain ⟨c0, c1, c2, d0, d1, d2, f0, f1, f2⟩ := HCELL.out w8 HB8.out
    repeat
      first
      | (first | with_reducible refine sp0 (fun K hK => ?_) | with_reducible refine sp1 (fun K hK => ?_) | with_reducible refine sp2 (fun K hK => ?_) | with_reducible refine sp3 (fun K hK => ?_) | with_reducible refine sp4 (fun K hK => ?_)
         go_simp
         first
         | (with_reducible refine hK _ _ ?_; clear hK K)
         | (with_reducible apply Exists.intro
            refine ⟨fun x hx => ?_, hK _ _ ?_⟩
            first
              | (with_reducible exact rfl)
              | (have y0 := keepc hx c0; have y1 := keepc hx c1; have y2 := keepc hx c2; have y3 := keepc hx d0; have y4 := keepc hx d1; have y5 := keepc hx d2; have y6 := keepc hx f0; have y7 := keepc hx f1; have y8 := keepc hx f2; go_simp; done)
              | (have y0 := keepc hx c0; have y1 := keepc hx c1; have y2 := keepc hx c2; have y3 := keepc hx d0; have y4 := keepc hx d1; have y5 := keepc hx d2; have y6 := keepc hx f0; have y7 := keepc hx f1; have y8 := keepc hx f2; go_simp; with_reducible exact rfl)
            clear hK K))
      | (first | with_reducible refine sk0 ?_ (fun K hK => ?_) | with_reducible refine sk1 ?_ (fun K hK => ?_) | with_reducible refine sk2 ?_ (fun K hK => ?_) | with_reducible refine sk3 ?_ (fun K hK => ?_) | with_reducible refine sk4 ?_ (fun K hK => ?_)
         rfl
         go_simp
         with_reducible refine hK _ _ ?_
         clear hK K)
    with_reducible refine seq_nil ?_
    clear c0 c1 c2 d0 d1 d2 f0 f1 f2
    go_wp2_with fail
    refine (wakes_any w8).mono ?_
    rintro e w9 ⟨rfl, h9⟩
    go_wp2_with fail
    go_ret
    exact ⟨rfl, HBW.out _ (HB8.out.trans (h9.mono (HLE.out _ HB8.out)))⟩
  · skip
    repeat
      first
      | (first | with_reducible refine sp0 (fun K hK => ?_) | with_reducible refine sp1 (fun K hK => ?_) | with_reducible refine sp2 (fun K hK => ?_) | with_reducible refine sp3 (fun K hK => ?_) | with_reducible refine sp4 (fun K hK => ?_)
         go_simp
         first
         | (with_reducible refine hK _ _ ?_; clear hK K)
         | (with_reducible apply Exists.intro
            refine ⟨fun x hx => ?_, hK _ _ ?_⟩
            first
              | (with_reducible exact rfl)
              | (have y0 := keepc hx c0; have y1 := keepc hx c1; have y2 := keepc hx c2; have y3 := keepc hx d0; have y4 := keepc hx d1; have y5 := keepc hx d2; have y6 := keepc hx f0; have y7 := keepc hx f1; have y8 := keepc hx f2; go_simp; done)
              | (have y0 := keepc hx c0; have y1 := keepc hx c1; have y2 := keepc hx c2; have y3 := keepc hx d0; have y4 := keepc hx d1; have y5 := keepc hx d2; have y6 := keepc hx f0; have y7 := keepc hx f1; have y8 := keepc hx f2; go_simp; with_reducible exact rfl)
            clear hK K))
      | (first | with_reducible refine sk0 ?_ (fun K hK => ?_) | with_reducible refine sk1 ?_ (fun K hK => ?_) | with_reducible refine sk2 ?_ (fun K hK => ?_) | with_reducible refine sk3 ?_ (fun K hK => ?_) | with_reducible refine sk4 ?_ (fun K hK => ?_)
         rfl
         go_simp
         with_reducible refine hK _ _ ?_
         clear hK K)
    first | with_reducible refine sc0 (fun K hK => ?_) | with_reducible refine sc1 (fun K hK => ?_) | with_reducible refine sc2 (fun K hK => ?_) | with_reducible refine sc3 (fun K hK => ?_) | with_reducible refine sc4 (fun K hK => ?_)
    go_simp
    refine (HBC.out _ HB7.out H6U.out).mono ?_
    clear c0 c1 c2 d0 d1 d2 f0 f1 f2
    rintro e w8 ⟨rfl, hb9⟩
    refine ⟨hb9, hK _ _ ?_⟩
    clear hK K
    have HB8 := Lib.hid (HB7.out.trans (hb9.mono (HLE.out _ HB7.out)))
    clear hb9
    obtain ⟨c0, c1, c2, d0, d1, d2, f0, f1, f2⟩ := HCELL.out w8 HB8.out
    have hsac := HTR.out
    cases sbc
    · skip
      repeat
        first
        | (first | with_reducible refine sp0 (fun K hK => ?_) | with_reducible refine sp1 (fun K hK => ?_) | with_reducible refine sp2 (fun K hK => ?_) | with_reducible refine sp3 (fun K hK => ?_) | with_reducible refine sp4 (fun K hK => ?_)
           go_simp
           first
           | (with_reducible refine hK _ _ ?_; clear hK K)
           | (with_reducible apply Exists.intro
              refine ⟨fun x hx => ?_, hK _ _ ?_⟩
              first
                | (with_reducible exact rfl)
                | (have y0 := keepc hx c0; have y1 := keepc hx c1; have y2 := keepc hx c2; have y3 := keepc hx d0; have y4 := keepc hx d1; have y5 := keepc hx d2; have y6 := keepc hx f0; have y7 := keepc hx f1; have y8 := keepc hx f2; go_simp; done)
                | (have y0 := keepc hx c0; have y1 := keepc hx c1; have y2 := keepc hx c2; have y3 := keepc hx d0; have y4 := keepc hx d1; have y5 := keepc hx d2; have y6 := keepc hx f0; have y7 := keepc hx f1; have y8 := keepc hx f2; go_simp; with_reducible exact rfl)
              clear hK K))
        | (first | with_reducible refine sk0 ?_ (fun K hK => ?_) | with_reducible refine sk1 ?_ (fun K hK => ?_) | with_reducible refine sk2 ?_ (fun K hK => ?_) | with_reducible refine sk3 ?_ (fun K hK => ?_) | with_reducible refine sk4 ?_ (fun K hK => ?_)
           rfl
           go_simp
           with_reducible refine hK _ _ ?_
           clear hK K)
      with_reducible refine seq_nil ?_
      have htu := HSM.out rfl
      have hs1 : Tp.size u = Tp.size t := by rw [htu]
      have hs2 : Tp.depth u = Tp.depth t := by rw [htu]
      have hs3 : Tp.right u = Tp.right t := by rw [htu]
      have hs4 : Tp.vars u [] = Tp.vars t [] := by rw [htu]
      have htb := HTB.out; have hdb := HDB.out; have hcb := HCB.out; have hvb := HVB.out
      simp only [hs1, hs2, hs3, hs4] at htb hdb hcb hvb
      have HTB2 := Lib.hid htb; have HDB2 := Lib.hid hdb; have HCB2 := Lib.hid hcb; have HVB2 := Lib.hid hvb
      have H6U2 := H6U.out; rw [hs1] at H6U2
      clear htb hdb hcb hvb hs1 hs2 hs3 hs4 htu c0 c1 c2 d0 d1 d2 f0 f1 f2
      have H6U3 := Lib.hid H6U2; clear H6U2
      go_upto_region 5 with fail
      have HBD := Lib.hid HB8.out.drew
      obtain ⟨c0, c1, c2, d0, d1, d2, f0, f1, f2⟩ := HCELL.out w8.drew HBD.out
      refine wp_region_seq [(0, false), (0, false), (0, true), (0, false), (0, false), (1, false), (0, true), (0, true), (0, false), (0, false), (0, false), (1, false), (0, true), (0, true), (0, false), (0, false), (0, false), (0, false), (1, false), (0, true), (0, true), (0, false), (0, false), (0, false), (0, false), (1, false), (0, true), (0, true), (0, true), (0, false), (0, false), (0, false)] (by kernel_rfl) (by kernel_rfl) (by kernel_rfl) (fun _ _ _ d _ h => by cases d <;> exact h) ?_
      repeat
        first
        | (first | with_reducible refine sp0 (fun K hK => ?_) | with_reducible refine sp1 (fun K hK => ?_) | with_reducible refine sp2 (fun K hK => ?_) | with_reducible refine sp3 (fun K hK => ?_) | with_reducible refine sp4 (fun K hK => ?_)
           go_simp
           first
           | (with_reducible refine hK _ _ ?_; clear hK K)
           | (with_reducible apply Exists.intro
              refine ⟨fun x hx => ?_, hK _ _ ?_⟩
              first
                | (with_reducible exact rfl)
                | (have y0 := keepc hx c0; have y1 := keepc hx c1; have y2 := keepc hx c2; have y3 := keepc hx d0; have y4 := keepc hx d1; have y5 := keepc hx d2; have y6 := keepc hx f0; have y7 := keepc hx f1; have y8 := keepc hx f2; go_simp; done)
                | (have y0 := keepc hx c0; have y1 := keepc hx c1; have y2 := keepc hx c2; have y3 := keepc hx d0; have y4 := keepc hx d1; have y5 := keepc hx d2; have y6 := keepc hx f0; have y7 := keepc hx f1; have y8 := keepc hx f2; go_simp; with_reducible exact rfl)
              clear hK K))
        | (first | with_reducible refine sk0 ?_ (fun K hK => ?_) | with_reducible refine sk1 ?_ (fun K hK => ?_) | with_reducible refine sk2 ?_ (fun K hK => ?_) | with_reducible refine sk3 ?_ (fun K hK => ?_) | with_reducible refine sk4 ?_ (fun K hK => ?_)
           rfl
           go_simp
           with_reducible refine hK _ _ ?_
           clear hK K)
      first | with_reducible refine sc0 (fun K hK => ?_) | with_reducible refine sc1 (fun K hK => ?_) | with_reducible refine sc2 (fun K hK => ?_) | with_reducible refine sc3 (fun K hK => ?_) | with_reducible refine sc4 (fun K hK => ?_)
      go_simp
      refine (HAB.out _ HBD.out H6T.out).mono ?_
      clear c0 c1 c2 d0 d1 d2 f0 f1 f2
      rintro e x1 ⟨rfl, hb9⟩
      refine ⟨hb9, hK _ _ ?_⟩
      clear hK K
      have HX1 := Lib.hid (HBD.out.trans (hb9.mono (HLE.out _ HBD.out)))
      clear hb9
      obtain ⟨c0, c1, c2, d0, d1, d2, f0, f1, f2⟩ := HCELL.out x1 HX1.out
      repeat
        first
        | (first | with_reducible refine sp0 (fun K hK => ?_) | with_reducible refine sp1 (fun K hK => ?_) | with_reducible refine sp2 (fun K hK => ?_) | with_reducible refine sp3 (fun K hK => ?_) | with_reducible refine sp4 (fun K hK => ?_)
           go_simp
           first
           | (with_reducible refine hK _ _ ?_; clear hK K)
           | (with_reducible apply Exists.intro
              refine ⟨fun x hx => ?_, hK _ _ ?_⟩
              first
                | (with_reducible exact rfl)
                | (have y0 := keepc hx c0; have y1 := keepc hx c1; have y2 := keepc hx c2; have y3 := keepc hx d0; have y4 := keepc hx d1; have y5 := keepc hx d2; have y6 := keepc hx f0; have y7 := keepc hx f1; have y8 := keepc hx f2; go_simp; done)
                | (have y0 := keepc hx c0; have y1 := keepc hx c1; have y2 := keepc hx c2; have y3 := keepc hx d0; have y4 := keepc hx d1; have y5 := keepc hx d2; have y6 := keepc hx f0; have y7 := keepc hx f1; have y8 := keepc hx f2; go_simp; with_reducible exact rfl)
              clear hK K))
        | (first | with_reducible refine sk0 ?_ (fun K hK => ?_) | with_reducible refine sk1 ?_ (fun K hK => ?_) | with_reducible refine sk2 ?_ (fun K hK => ?_) | with_reducible refine sk3 ?_ (fun K hK => ?_) | with_reducible refine sk4 ?_ (fun K hK => ?_)
           rfl
           go_simp
           with_reducible refine hK _ _ ?_
           clear hK K)
      first | with_reducible refine sc0 (fun K hK => ?_) | with_reducible refine sc1 (fun K hK => ?_) | with_reducible refine sc2 (fun K hK => ?_) | with_reducible refine sc3 (fun K hK => ?_) | with_reducible refine sc4 (fun K hK => ?_)
      go_simp
      refine (HTA.out _ HX1.out H6T.out).mono ?_
      clear c0 c1 c2 d0 d1 d2 f0 f1 f2
      rintro e x2 ⟨rfl, hb9⟩
      refine ⟨hb9, hK _ _ ?_⟩
      clear hK K
      have HX2 := Lib.hid (HX1.out.trans (hb9.mono (HLE.out _ HX1.out)))
      clear hb9
      obtain ⟨c0, c1, c2, d0, d1, d2, f0, f1, f2⟩ := HCELL.out x2 HX2.out
      repeat
        first
        | (first | with_reducible refine sp0 (fun K hK => ?_) | with_reducible refine sp1 (fun K hK => ?_) | with_reducible refine sp2 (fun K hK => ?_) | with_reducible refine sp3 (fun K hK => ?_) | with_reducible refine sp4 (fun K hK => ?_)
           go_simp
           first
           | (with_reducible refine hK _ _ ?_; clear hK K)
           | (with_reducible apply Exists.intro
              refine ⟨fun x hx => ?_, hK _ _ ?_⟩
              first
                | (with_reducible exact rfl)
                | (have y0 := keepc hx c0; have y1 := keepc hx c1; have y2 := keepc hx c2; have y3 := keepc hx d0; have y4 := keepc hx d1; have y5 := keepc hx d2; have y6 := keepc hx f0; have y7 := keepc hx f1; have y8 := keepc hx f2; go_simp; done)
                | (have y0 := keepc hx c0; have y1 := keepc hx c1; have y2 := keepc hx c2; have y3 := keepc hx d0; have y4 := keepc hx d1; have y5 := keepc hx d2; have y6 := keepc hx f0; have y7 := keepc hx f1; have y8 := keepc hx f2; go_simp; with_reducible exact rfl)
              clear hK K))
        | (first | with_reducible refine sk0 ?_ (fun K hK => ?_) | with_reducible refine sk1 ?_ (fun K hK => ?_) | with_reducible refine sk2 ?_ (fun K hK => ?_) | with_reducible refine sk3 ?_ (fun K hK => ?_) | with_reducible refine sk4 ?_ (fun K hK => ?_)
           rfl
           go_simp
           with_reducible refine hK _ _ ?_
           clear hK K)
      first | with_reducible refine sc0 (fun K hK => ?_) | with_reducible refine sc1 (fun K hK => ?_) | with_reducible refine sc2 (fun K hK => ?_) | with_reducible refine sc3 (fun K hK => ?_) | with_reducible refine sc4 (fun K hK => ?_)
      go_simp
      refine (HTB2.out _ HX2.out H6U3.out).mono ?_
      clear c0 c1 c2 d0 d1 d2 f0 f1 f2
      rintro e x3 ⟨rfl, hb9⟩
      refine ⟨hb9, hK _ _ ?_⟩
      clear hK K
      have HX3 := Lib.hid (HX2.out.trans (hb9.mono (HLE.out _ HX2.out)))
      clear hb9
      obtain ⟨c0, c1, c2, d0, d1, d2, f0, f1, f2⟩ := HCELL.out x3 HX3.out
      repeat
        first
        | (first | with_reducible refine sp0 (fun K hK => ?_) | with_reducible refine sp1 (fun K hK => ?_) | with_reducible refine sp2 (fun K hK => ?_) | with_reducible refine sp3 (fun K hK => ?_) | with_reducible refine sp4 (fun K hK => ?_)
           go_simp
           first
           | (with_reducible refine hK _ _ ?_; clear hK K)
           | (with_reducible apply Exists.intro
              refine ⟨fun x hx => ?_, hK _ _ ?_⟩
              first
                | (with_reducible exact rfl)
                | (have y0 := keepc hx c0; have y1 := keepc hx c1; have y2 := keepc hx c2; have y3 := keepc hx d0; have y4 := keepc hx d1; have y5 := keepc hx d2; have y6 := keepc hx f0; have y7 := keepc hx f1; have y8 := keepc hx f2; go_simp; done)
                | (have y0 := keepc hx c0; have y1 := keepc hx c1; have y2 := keepc hx c2; have y3 := keepc hx d0; have y4 := keepc hx d1; have y5 := keepc hx d2; have y6 := keepc hx f0; have y7 := keepc hx f1; have y8 := keepc hx f2; go_simp; with_reducible exact rfl)
              clear hK K))
        | (first | with_reducible refine sk0 ?_ (fun K hK => ?_) | with_reducible refine sk1 ?_ (fun K hK => ?_) | with_reducible refine sk2 ?_ (fun K hK => ?_) | with_reducible refine sk3 ?_ (fun K hK => ?_) | with_reducible refine sk4 ?_ (fun K hK => ?_)
           rfl
           go_simp
           with_reducible refine hK _ _ ?_
           clear hK K)
      first | with_reducible refine sc0 (fun K hK => ?_) | with_reducible refine sc1 (fun K hK => ?_) | with_reducible refine sc2 (fun K hK => ?_) | with_reducible refine sc3 (fun K hK => ?_) | with_reducible refine sc4 (fun K hK => ?_)
      go_simp
      refine (HDA.out _ HX3.out H6T.out).mono ?_
      clear c0 c1 c2 d0 d1 d2 f0 f1 f2
      rintro e x4 ⟨rfl, hb9⟩
      refine ⟨hb9, hK _ _ ?_⟩
      clear hK K
      have HX4 := Lib.hid (HX3.out.trans (hb9.mono (HLE.out _ HX3.out)))
      clear hb9
      obtain ⟨c0, c1, c2, d0, d1, d2, f0, f1, f2⟩ := HCELL.out x4 HX4.out
      repeat
        first
        | (first | with_reducible refine sp0 (fun K hK => ?_) | with_reducible refine sp1 (fun K hK => ?_) | with_reducible refine sp2 (fun K hK => ?_) | with_reducible refine sp3 (fun K hK => ?_) | with_reducible refine sp4 (fun K hK => ?_)
           go_simp
           first
           | (with_reducible refine hK _ _ ?_; clear hK K)
           | (with_reducible apply Exists.intro
              refine ⟨fun x hx => ?_, hK _ _ ?_⟩
              first
                | (with_reducible exact rfl)
                | (have y0 := keepc hx c0; have y1 := keepc hx c1; have y2 := keepc hx c2; have y3 := keepc hx d0; have y4 := keepc hx d1; have y5 := keepc hx d2; have y6 := keepc hx f0; have y7 := keepc hx f1; have y8 := keepc hx f2; go_simp; done)
                | (have y0 := keepc hx c0; have y1 := keepc hx c1; have y2 := keepc hx c2; have y3 := keepc hx d0; have y4 := keepc hx d1; have y5 := keepc hx d2; have y6 := keepc hx f0; have y7 := keepc hx f1; have y8 := keepc hx f2; go_simp; with_reducible exact rfl)
              clear hK K))
        | (first | with_reducible refine sk0 ?_ (fun K hK => ?_) | with_reducible refine sk1 ?_ (fun K hK => ?_) | with_reducible refine sk2 ?_ (fun K hK => ?_) | with_reducible refine sk3 ?_ (fun K hK => ?_) | with_reducible refine sk4 ?_ (fun K hK => ?_)
           rfl
           go_simp
           with_reducible refine hK _ _ ?_
           clear hK K)
      first | with_reducible refine sc0 (fun K hK => ?_) | with_reducible refine sc1 (fun K hK => ?_) | with_reducible refine sc2 (fun K hK => ?_) | with_reducible refine sc3 (fun K hK => ?_) | with_reducible refine sc4 (fun K hK => ?_)
      go_simp
      refine (HDB2.out _ HX4.out H6U3.out).mono ?_
      clear c0 c1 c2 d0 d1 d2 f0 f1 f2
      rintro e x5 ⟨rfl, hb9⟩
      refine ⟨hb9, hK _ _ ?_⟩
      clear hK K
      have HX5 := Lib.hid (HX4.out.trans (hb9.mono (HLE.out _ HX4.out)))
      clear hb9
      obtain ⟨c0, c1, c2, d0, d1, d2, f0, f1, f2⟩ := HCELL.out x5 HX5.out
      repeat
        first
        | (first | with_reducible refine sp0 (fun K hK => ?_) | with_reducible refine sp1 (fun K hK => ?_) | with_reducible refine sp2 (fun K hK => ?_) | with_reducible refine sp3 (fun K hK => ?_) | with_reducible refine sp4 (fun K hK => ?_)
           go_simp
           first
           | (with_reducible refine hK _ _ ?_; clear hK K)
           | (with_reducible apply Exists.intro
              refine ⟨fun x hx => ?_, hK _ _ ?_⟩
              first
                | (with_reducible exact rfl)
                | (have y0 := keepc hx c0; have y1 := keepc hx c1; have y2 := keepc hx c2; have y3 := keepc hx d0; have y4 := keepc hx d1; have y5 := keepc hx d2; have y6 := keepc hx f0; have y7 := keepc hx f1; have y8 := keepc hx f2; go_simp; done)
                | (have y0 := keepc hx c0; have y1 := keepc hx c1; have y2 := keepc hx c2; have y3 := keepc hx d0; have y4 := keepc hx d1; have y5 := keepc hx d2; have y6 := keepc hx f0; have y7 := keepc hx f1; have y8 := keepc hx f2; go_simp; with_reducible exact rfl)
              clear hK K))
        | (first | with_reducible refine sk0 ?_ (fun K hK => ?_) | with_reducible refine sk1 ?_ (fun K hK => ?_) | with_reducible refine sk2 ?_ (fun K hK => ?_) | with_reducible refine sk3 ?_ (fun K hK => ?_) | with_reducible refine sk4 ?_ (fun K hK => ?_)
           rfl
           go_simp
           with_reducible refine hK _ _ ?_
           clear hK K)
      first | with_reducible refine sc0 (fun K hK => ?_) | with_reducible refine sc1 (fun K hK => ?_) | with_reducible refine sc2 (fun K hK => ?_) | with_reducible refine sc3 (fun K hK => ?_) | with_reducible refine sc4 (fun K hK => ?_)
      go_simp
      refine (HCA.out _ HX5.out H6T.out).mono ?_
      clear c0 c1 c2 d0 d1 d2 f0 f1 f2
      rintro e x6 ⟨rfl, hb9⟩
      refine ⟨hb9, hK _ _ ?_⟩
      clear hK K
      have HX6 := Lib.hid (HX5.out.trans (hb9.mono (HLE.out _ HX5.out)))
      clear hb9
      obtain ⟨c0, c1, c2, d0, d1, d2, f0, f1, f2⟩ := HCELL.out x6 HX6.out
      repeat
        first
        | (first | with_reducible refine sp0 (fun K hK => ?_) | with_reducible refine sp1 (fun K hK => ?_) | with_reducible refine sp2 (fun K hK => ?_) | with_reducible refine sp3 (fun K hK => ?_) | with_reducible refine sp4 (fun K hK => ?_)
           go_simp
           first
           | (with_reducible refine hK _ _ ?_; clear hK K)
           | (with_reducible apply Exists.intro
              refine ⟨fun x hx => ?_, hK _ _ ?_⟩
              first
                | (with_reducible exact rfl)
                | (have y0 := keepc hx c0; have y1 := keepc hx c1; have y2 := keepc hx c2; have y3 := keepc hx d0; have y4 := keepc hx d1; have y5 := keepc hx d2; have y6 := keepc hx f0; have y7 := keepc hx f1; have y8 := keepc hx f2; go_simp; done)
                | (have y0 := keepc hx c0; have y1 := keepc hx c1; have y2 := keepc hx c2; have y3 := keepc hx d0; have y4 := keepc hx d1; have y5 := keepc hx d2; have y6 := keepc hx f0; have y7 := keepc hx f1; have y8 := keepc hx f2; go_simp; with_reducible exact rfl)
              clear hK K))
        | (first | with_reducible refine sk0 ?_ (fun K hK => ?_) | with_reducible refine sk1 ?_ (fun K hK => ?_) | with_reducible refine sk2 ?_ (fun K hK => ?_) | with_reducible refine sk3 ?_ (fun K hK => ?_) | with_reducible refine sk4 ?_ (fun K hK => ?_)
           rfl
           go_simp
           with_reducible refine hK _ _ ?_
           clear hK K)
      first | with_reducible refine sc0 (fun K hK => ?_) | with_reducible refine sc1 (fun K hK => ?_) | with_reducible refine sc2 (fun K hK => ?_) | with_reducible refine sc3 (fun K hK => ?_) | with_reducible refine sc4 (fun K hK => ?_)
      go_simp
      refine (HCB2.out _ HX6.out H6U3.out).mono ?_
      clear c0 c1 c2 d0 d1 d2 f0 f1 f2
      rintro e x7 ⟨rfl, hb9⟩
      refine ⟨hb9, hK _ _ ?_⟩
      clear hK K
      have HX7 := Lib.hid (HX6.out.trans (hb9.mono (HLE.out _ HX6.out)))
      clear hb9
      obtain ⟨c0, c1, c2, d0, d1, d2, f0, f1, f2⟩ := HCELL.out x7 HX7.out
      repeat
        first
        | (first | with_reducible refine sp0 (fun K hK => ?_) | with_reducible refine sp1 (fun K hK => ?_) | with_reducible refine sp2 (fun K hK => ?_) | with_reducible refine sp3 (fun K hK => ?_) | with_reducible refine sp4 (fun K hK => ?_)
           go_simp
           first
           | (with_reducible refine hK _ _ ?_; clear hK K)
           | (with_reducible apply Exists.intro
              refine ⟨fun x hx => ?_, hK _ _ ?_⟩
              first
                | (with_reducible exact rfl)
                | (have y0 := keepc hx c0; have y1 := keepc hx c1; have y2 := keepc hx c2; have y3 := keepc hx d0; have y4 := keepc hx d1; have y5 := keepc hx d2; have y6 := keepc hx f0; have y7 := keepc hx f1; have y8 := keepc hx f2; go_simp; done)
                | (have y0 := keepc hx c0; have y1 := keepc hx c1; have y2 := keepc hx c2; have y3 := keepc hx d0; have y4 := keepc hx d1; have y5 := keepc hx d2; have y6 := keepc hx f0; have y7 := keepc hx f1; have y8 := keepc hx f2; go_simp; with_reducible exact rfl)
              clear hK K))
        | (first | with_reducible refine sk0 ?_ (fun K hK => ?_) | with_reducible refine sk1 ?_ (fun K hK => ?_) | with_reducible refine sk2 ?_ (fun K hK => ?_) | with_reducible refine sk3 ?_ (fun K hK => ?_) | with_reducible refine sk4 ?_ (fun K hK => ?_)
           rfl
           go_simp
           with_reducible refine hK _ _ ?_
           clear hK K)
      first | with_reducible refine sc0 (fun K hK => ?_) | with_reducible refine sc1 (fun K hK => ?_) | with_reducible refine sc2 (fun K hK => ?_) | with_reducible refine sc3 (fun K hK => ?_) | with_reducible refine sc4 (fun K hK => ?_)
      go_simp
      refine (HVA.out _ HX7.out H6T.out).mono ?_
      clear c0 c1 c2 d0 d1 d2 f0 f1 f2
      rintro e y1 ⟨v1, rfl, own1, hb⟩
      obtain ⟨a6, c6, rfl⟩ := own_shape' own1
      refine ⟨hb, hK _ _ ?_⟩
      clear hK K
      have HR1 := Lib.hid (IntRow.of_own own1).2; have HY1 := Lib.hid (HX7.out.trans (hb.mono (HLE.out _ HX7.out)))
      clear own1 hb
      obtain ⟨c0, c1, c2, d0, d1, d2, f0, f1, f2⟩ := HCELL.out y1 HY1.out
      repeat
        first
        | (first | with_reducible refine sp0 (fun K hK => ?_) | with_reducible refine sp1 (fun K hK => ?_) | with_reducible refine sp2 (fun K hK => ?_) | with_reducible refine sp3 (fun K hK => ?_) | with_reducible refine sp4 (fun K hK => ?_)
           go_simp
           first
           | (with_reducible refine hK _ _ ?_; clear hK K)
           | (with_reducible apply Exists.intro
              refine ⟨fun x hx => ?_, hK _ _ ?_⟩
              first
                | (with_reducible exact rfl)
                | (have y0 := keepc hx c0; have y1 := keepc hx c1; have y2 := keepc hx c2; have y3 := keepc hx d0; have y4 := keepc hx d1; have y5 := keepc hx d2; have y6 := keepc hx f0; have y7 := keepc hx f1; have y8 := keepc hx f2; go_simp; done)
                | (have y0 := keepc hx c0; have y1 := keepc hx c1; have y2 := keepc hx c2; have y3 := keepc hx d0; have y4 := keepc hx d1; have y5 := keepc hx d2; have y6 := keepc hx f0; have y7 := keepc hx f1; have y8 := keepc hx f2; go_simp; with_reducible exact rfl)
              clear hK K))
        | (first | with_reducible refine sk0 ?_ (fun K hK => ?_) | with_reducible refine sk1 ?_ (fun K hK => ?_) | with_reducible refine sk2 ?_ (fun K hK => ?_) | with_reducible refine sk3 ?_ (fun K hK => ?_) | with_reducible refine sk4 ?_ (fun K hK => ?_)
           rfl
           go_simp
           with_reducible refine hK _ _ ?_
           clear hK K)
      first | with_reducible refine sc0 (fun K hK => ?_) | with_reducible refine sc1 (fun K hK => ?_) | with_reducible refine sc2 (fun K hK => ?_) | with_reducible refine sc3 (fun K hK => ?_) | with_reducible refine sc4 (fun K hK => ?_)
      go_simp
      refine (HVB2.out _ HY1.out H6U3.out).mono ?_
      clear c0 c1 c2 d0 d1 d2 f0 f1 f2
      rintro e y2 ⟨v2, rfl, own2, hb⟩
      obtain ⟨a7, c7, rfl⟩ := own_shape' own2
      refine ⟨hb, hK _ _ ?_⟩
      clear hK K
      have HR2 := Lib.hid (IntRow.of_own own2).2; have HR1' := Lib.hid (HR1.out.below hb (Nat.le_refl _)); have HY2 := Lib.hid (HY1.out.trans (hb.mono (HLE.out _ HY1.out)))
      have hin := ints_any (Tp.vars t []) (Tp.vars t []) a6 c6 a7 c7 y2 (vlen_big H6T.out) (vlen_big H6T.out) HR1'.out HR2.out
      rw [decide_eq_true rfl] at hin
      have HIN := Lib.hid hin
      clear own2 hb hin
      obtain ⟨c0, c1, c2, d0, d1, d2, f0, f1, f2⟩ := HCELL.out y2 HY2.out
      repeat
        first
        | (first | with_reducible refine sp0 (fun K hK => ?_) | with_reducible refine sp1 (fun K hK => ?_) | with_reducible refine sp2 (fun K hK => ?_) | with_reducible refine sp3 (fun K hK => ?_) | with_reducible refine sp4 (fun K hK => ?_)
           go_simp
           first
           | (with_reducible refine hK _ _ ?_; clear hK K)
           | (with_reducible apply Exists.intro
              refine ⟨fun x hx => ?_, hK _ _ ?_⟩
              first
                | (with_reducible exact rfl)
                | (have y0 := keepc hx c0; have y1 := keepc hx c1; have y2 := keepc hx c2; have y3 := keepc hx d0; have y4 := keepc hx d1; have y5 := keepc hx d2; have y6 := keepc hx f0; have y7 := keepc hx f1; have y8 := keepc hx f2; go_simp; done)
                | (have y0 := keepc hx c0; have y1 := keepc hx c1; have y2 := keepc hx c2; have y3 := keepc hx d0; have y4 := keepc hx d1; have y5 := keepc hx d2; have y6 := keepc hx f0; have y7 := keepc hx f1; have y8 := keepc hx f2; go_simp; with_reducible exact rfl)
              clear hK K))
        | (first | with_reducible refine sk0 ?_ (fun K hK => ?_) | with_reducible refine sk1 ?_ (fun K hK => ?_) | with_reducible refine sk2 ?_ (fun K hK => ?_) | with_reducible refine sk3 ?_ (fun K hK => ?_) | with_reducible refine sk4 ?_ (fun K hK => ?_)
           rfl
           go_simp
           with_reducible refine hK _ _ ?_
           clear hK K)
      first | with_reducible refine sc0 (fun K hK => ?_) | with_reducible refine sc1 (fun K hK => ?_) | with_reducible refine sc2 (fun K hK => ?_) | with_reducible refine sc3 (fun K hK => ?_) | with_reducible refine sc4 (fun K hK => ?_)
      go_simp
      refine (HIN.out).mono ?_
      clear c0 c1 c2 d0 d1 d2 f0 f1 f2
      rintro e y3 ⟨rfl, hb⟩
      refine ⟨hb, hK _ _ ?_⟩
      clear hK K
      have HY3 := Lib.hid (HY2.out.trans (hb.mono (HLE.out _ HY2.out)))
      clear hb
      repeat
        first
        | (first | with_reducible refine sp0 (fun K hK => ?_) | with_reducible refine sp1 (fun K hK => ?_) | with_reducible refine sp2 (fun K hK => ?_) | with_reducible refine sp3 (fun K hK => ?_) | with_reducible refine sp4 (fun K hK => ?_)
           go_simp
           first
           | (with_reducible refine hK _ _ ?_; clear hK K)
           | (with_reducible apply Exists.intro
              refine ⟨fun x hx => ?_, hK _ _ ?_⟩
              first
                | (with_reducible exact rfl)
              clear hK K))
        | (first | with_reducible refine sk0 ?_ (fun K hK => ?_) | with_reducible refine sk1 ?_ (fun K hK => ?_) | with_reducible refine sk2 ?_ (fun K hK => ?_) | with_reducible refine sk3 ?_ (fun K hK => ?_) | with_reducible refine sk4 ?_ (fun K hK => ?_)
           rfl
           go_simp
           with_reducible refine hK _ _ ?_
           clear hK K)
      with_reducible refine seq_nil ?_
      go_wp2_with fail
      refine (wakes_any y3).mono ?_
      rintro e y4 ⟨rfl, h9⟩
      go_wp2_with fail
      go_ret
      exact ⟨rfl, HBW.out _ (HY3.out.trans (h9.mono (HLE.out _ HY3.out)))⟩
    · obtain rfl := hsac rfl rfl
      repeat
        first
        | (first | with_reducible refine sp0 (fun K hK => ?_) | with_reducible refine sp1 (fun K hK => ?_) | with_reducible refine sp2 (fun K hK => ?_) | with_reducible refine sp3 (fun K hK => ?_) | with_reducible refine sp4 (fun K hK => ?_)
           go_simp
           first
           | (with_reducible refine hK _ _ ?_; clear hK K)
           | (with_reducible apply Exists.intro
              refine ⟨fun x hx => ?_, hK _ _ ?_⟩
              first
                | (with_reducible exact rfl)
                | (have y0 := keepc hx c0; have y1 := keepc hx c1; have y2 := keepc hx c2; have y3 := keepc hx d0; have y4 := keepc hx d1; have y5 := keepc hx d2; have y6 := keepc hx f0; have y7 := keepc hx f1; have y8 := keepc hx f2; go_simp; done)
                | (have y0 := keepc hx c0; have y1 := keepc hx c1; have y2 := keepc hx c2; have y3 := keepc hx d0; have y4 := keepc hx d1; have y5 := keepc hx d2; have y6 := keepc hx f0; have y7 := keepc hx f1; have y8 := keepc hx f2; go_simp; with_reducible exact rfl)
              clear hK K))
        | (first | with_reducible refine sk0 ?_ (fun K hK => ?_) | with_reducible refine sk1 ?_ (fun K hK => ?_) | with_reducible refine sk2 ?_ (fun K hK => ?_) | with_reducible refine sk3 ?_ (fun K hK => ?_) | with_reducible refine sk4 ?_ (fun K hK => ?_)
           rfl
           go_simp
           with_reducible refine hK _ _ ?_
           clear hK K)
      first | with_reducible refine sc0 (fun K hK => ?_) | with_reducible refine sc1 (fun K hK => ?_) | with_reducible refine sc2 (fun K hK => ?_) | with_reducible refine sc3 (fun K hK => ?_) | with_reducible refine sc4 (fun K hK => ?_)
      go_simp
      refine (HAC.out _ HB8.out H6T.out).mono ?_
      clear c0 c1 c2 d0 d1 d2 f0 f1 f2
      rintro e w9 ⟨rfl, hb9⟩
      refine ⟨hb9, hK _ _ ?_⟩
      clear hK K
      have HB9 := Lib.hid (HB8.out.trans (hb9.mono (HLE.out _ HB8.out)))
      clear hb9
      obtain ⟨c0, c1, c2, d0, d1, d2, f0, f1, f2⟩ := HCELL.out w9 HB9.out
      repeat
        first
        | (first | with_reducible refine sp0 (fun K hK => ?_) | with_reducible refine sp1 (fun K hK => ?_) | with_reducible refine sp2 (fun K hK => ?_) | with_reducible refine sp3 (fun K hK => ?_) | with_reducible refine sp4 (fun K hK => ?_)
           go_simp
           first
           | (with_reducible refine hK _ _ ?_; clear hK K)
           | (with_reducible apply Exists.intro
              refine ⟨fun x hx => ?_, hK _ _ ?_⟩
              first
                | (with_reducible exact rfl)
                | (have y0 := keepc hx c0; have y1 := keepc hx c1; have y2 := keepc hx c2; have y3 := keepc hx d0; have y4 := keepc hx d1; have y5 := keepc hx d2; have y6 := keepc hx f0; have y7 := keepc hx f1; have y8 := keepc hx f2; go_simp; done)
                | (have y0 := keepc hx c0; have y1 := keepc hx c1; have y2 := keepc hx c2; have y3 := keepc hx d0; have y4 := keepc hx d1; have y5 := keepc hx d2; have y6 := keepc hx f0; have y7 := keepc hx f1; have y8 := keepc hx f2; go_simp; with_reducible exact rfl)
              clear hK K))
        | (first | with_reducible refine sk0 ?_ (fun K hK => ?_) | with_reducible refine sk1 ?_ (fun K hK => ?_) | with_reducible refine sk2 ?_ (fun K hK => ?_) | with_reducible refine sk3 ?_ (fun K hK => ?_) | with_reducible refine sk4 ?_ (fun K hK => ?_)
           rfl
           go_simp
           with_reducible refine hK _ _ ?_
           clear hK K)
      with_reducible refine seq_nil ?_
      have htu := HSM.out rfl
      have hs1 : Tp.size u = Tp.size t := by rw [htu]
      have hs2 : Tp.depth u = Tp.depth t := by rw [htu]
      have hs3 : Tp.right u = Tp.right t := by rw [htu]
      have hs4 : Tp.vars u [] = Tp.vars t [] := by rw [htu]
      have htb := HTB.out; have hdb := HDB.out; have hcb := HCB.out; have hvb := HVB.out
      simp only [hs1, hs2, hs3, hs4] at htb hdb hcb hvb
      have HTB2 := Lib.hid htb; have HDB2 := Lib.hid hdb; have HCB2 := Lib.hid hcb; have HVB2 := Lib.hid hvb
      have H6U2 := H6U.out; rw [hs1] at H6U2
      clear htb hdb hcb hvb hs1 hs2 hs3 hs4 htu c0 c1 c2 d0 d1 d2 f0 f1 f2
      have H6U3 := Lib.hid H6U2; clear H6U2
      go_upto_region 5 with fail
      have HBD := Lib.hid HB9.out.drew
      obtain ⟨c0, c1, c2, d0, d1, d2, f0, f1, f2⟩ := HCELL.out w9.drew HBD.out
      refine wp_region_seq [(0, false), (0, false), (0, true), (0, false), (0, false), (1, false), (0, true), (0, true), (0, false), (0, false), (0, false), (1, false), (0, true), (0, true), (0, false), (0, false), (0, false), (0, false), (1, false), (0, true), (0, true), (0, false), (0, false), (0, false), (0, false), (1, false), (0, true), (0, true), (0, true), (0, false), (0, false), (0, false)] (by kernel_rfl) (by kernel_rfl) (by kernel_rfl) (fun _ _ _ d _ h => by cases d <;> exact h) ?_
      repeat
        first
        | (first | with_reducible refine sp0 (fun K hK => ?_) | with_reducible refine sp1 (fun K hK => ?_) | with_reducible refine sp2 (fun K hK => ?_) | with_reducible refine sp3 (fun K hK => ?_) | with_reducible refine sp4 (fun K hK => ?_)
           go_simp
           first
           | (with_reducible refine hK _ _ ?_; clear hK K)
           | (with_reducible apply Exists.intro
              refine ⟨fun x hx => ?_, hK _ _ ?_⟩
              first
                | (with_reducible exact rfl)
                | (have y0 := keepc hx c0; have y1 := keepc hx c1; have y2 := keepc hx c2; have y3 := keepc hx d0; have y4 := keepc hx d1; have y5 := keepc hx d2; have y6 := keepc hx f0; have y7 := keepc hx f1; have y8 := keepc hx f2; go_simp; done)
                | (have y0 := keepc hx c0; have y1 := keepc hx c1; have y2 := keepc hx c2; have y3 := keepc hx d0; have y4 := keepc hx d1; have y5 := keepc hx d2; have y6 := keepc hx f0; have y7 := keepc hx f1; have y8 := keepc hx f2; go_simp; with_reducible exact rfl)
              clear hK K))
        | (first | with_reducible refine sk0 ?_ (fun K hK => ?_) | with_reducible refine sk1 ?_ (fun K hK => ?_) | with_reducible refine sk2 ?_ (fun K hK => ?_) | with_reducible refine sk3 ?_ (fun K hK => ?_) | with_reducible refine sk4 ?_ (fun K hK => ?_)
           rfl
           go_simp
           with_reducible refine hK _ _ ?_
           clear hK K)
      first | with_reducible refine sc0 (fun K hK => ?_) | with_reducible refine sc1 (fun K hK => ?_) | with_reducible refine sc2 (fun K hK => ?_) | with_reducible refine sc3 (fun K hK => ?_) | with_reducible refine sc4 (fun K hK => ?_)
      go_simp
      refine (HAB.out _ HBD.out H6T.out).mono ?_
      clear c0 c1 c2 d0 d1 d2 f0 f1 f2
      rintro e x1 ⟨rfl, hb9⟩
      refine ⟨hb9, hK _ _ ?_⟩
      clear hK K
      have HX1 := Lib.hid (HBD.out.trans (hb9.mono (HLE.out _ HBD.out)))
      clear hb9
      obtain ⟨c0, c1, c2, d0, d1, d2, f0, f1, f2⟩ := HCELL.out x1 HX1.out
      repeat
        first
        | (first | with_reducible refine sp0 (fun K hK => ?_) | with_reducible refine sp1 (fun K hK => ?_) | with_reducible refine sp2 (fun K hK => ?_) | with_reducible refine sp3 (fun K hK => ?_) | with_reducible refine sp4 (fun K hK => ?_)
           go_simp
           first
           | (with_reducible refine hK _ _ ?_; clear hK K)
           | (with_reducible apply Exists.intro
              refine ⟨fun x hx => ?_, hK _ _ ?_⟩
              first
                | (with_reducible exact rfl)
                | (have y0 := keepc hx c0; have y1 := keepc hx c1; have y2 := keepc hx c2; have y3 := keepc hx d0; have y4 := keepc hx d1; have y5 := keepc hx d2; have y6 := keepc hx f0; have y7 := keepc hx f1; have y8 := keepc hx f2; go_simp; done)
                | (have y0 := keepc hx c0; have y1 := keepc hx c1; have y2 := keepc hx c2; have y3 := keepc hx d0; have y4 := keepc hx d1; have y5 := keepc hx d2; have y6 := keepc hx f0; have y7 := keepc hx f1; have y8 := keepc hx f2; go_simp; with_reducible exact rfl)
              clear hK K))
        | (first | with_reducible refine sk0 ?_ (fun K hK => ?_) | with_reducible refine sk1 ?_ (fun K hK => ?_) | with_reducible refine sk2 ?_ (fun K hK => ?_) | with_reducible refine sk3 ?_ (fun K hK => ?_) | with_reducible refine sk4 ?_ (fun K hK => ?_)
           rfl
           go_simp
           with_reducible refine hK _ _ ?_
           clear hK K)
      first | with_reducible refine sc0 (fun K hK => ?_) | with_reducible refine sc1 (fun K hK => ?_) | with_reducible refine sc2 (fun K hK => ?_) | with_reducible refine sc3 (fun K hK => ?_) | with_reducible refine sc4 (fun K hK => ?_)
      go_simp
      refine (HTA.out _ HX1.out H6T.out).mono ?_
      clear c0 c1 c2 d0 d1 d2 f0 f1 f2
      rintro e x2 ⟨rfl, hb9⟩
      refine ⟨hb9, hK _ _ ?_⟩
      clear hK K
      have HX2 := Lib.hid (HX1.out.trans (hb9.mono (HLE.out _ HX1.out)))
      clear hb9
      obtain ⟨c0, c1, c2, d0, d1, d2, f0, f1, f2⟩ := HCELL.out x2 HX2.out
      repeat
        first
        | (first | with_reducible refine sp0 (fun K hK => ?_) | with_reducible refine sp1 (fun K hK => ?_) | with_reducible refine sp2 (fun K hK => ?_) | with_reducible refine sp3 (fun K hK => ?_) | with_reducible refine sp4 (fun K hK => ?_)
           go_simp
           first
           | (with_reducible refine hK _ _ ?_; clear hK K)
           | (with_reducible apply Exists.intro
              refine ⟨fun x hx => ?_, hK _ _ ?_⟩
              first
                | (with_reducible exact rfl)
                | (have y0 := keepc hx c0; have y1 := keepc hx c1; have y2 := keepc hx c2; have y3 := keepc hx d0; have y4 := keepc hx d1; have y5 := keepc hx d2; have y6 := keepc hx f0; have y7 := keepc hx f1; have y8 := keepc hx f2; go_simp; done)
                | (have y0 := keepc hx c0; have y1 := keepc hx c1; have y2 := keepc hx c2; have y3 := keepc hx d0; have y4 := keepc hx d1; have y5 := keepc hx d2; have y6 := keepc hx f0; have y7 := keepc hx f1; have y8 := keepc hx f2; go_simp; with_reducible exact rfl)
              clear hK K))
        | (first | with_reducible refine sk0 ?_ (fun K hK => ?_) | with_reducible refine sk1 ?_ (fun K hK => ?_) | with_reducible refine sk2 ?_ (fun K hK => ?_) | with_reducible refine sk3 ?_ (fun K hK => ?_) | with_reducible refine sk4 ?_ (fun K hK => ?_)
           rfl
           go_simp
           with_reducible refine hK _ _ ?_
           clear hK K)
      first | with_reducible refine sc0 (fun K hK => ?_) | with_reducible refine sc1 (fun K hK => ?_) | with_reducible refine sc2 (fun K hK => ?_) | with_reducible refine sc3 (fun K hK => ?_) | with_reducible refine sc4 (fun K hK => ?_)
      go_simp
      refine (HTB2.out _ HX2.out H6U3.out).mono ?_
      clear c0 c1 c2 d0 d1 d2 f0 f1 f2
      rintro e x3 ⟨rfl, hb9⟩
      refine ⟨hb9, hK _ _ ?_⟩
      clear hK K
      have HX3 := Lib.hid (HX2.out.trans (hb9.mono (HLE.out _ HX2.out)))
      clear hb9
      obtain ⟨c0, c1, c2, d0, d1, d2, f0, f1, f2⟩ := HCELL.out x3 HX3.out
      repeat
        first
        | (first | with_reducible refine sp0 (fun K hK => ?_) | with_reducible refine sp1 (fun K hK => ?_) | with_reducible refine sp2 (fun K hK => ?_) | with_reducible refine sp3 (fun K hK => ?_) | with_reducible refine sp4 (fun K hK => ?_)
           go_simp
           first
           | (with_reducible refine hK _ _ ?_; clear hK K)
           | (with_reducible apply Exists.intro
              refine ⟨fun x hx => ?_, hK _ _ ?_⟩
              first
                | (with_reducible exact rfl)
                | (have y0 := keepc hx c0; have y1 := keepc hx c1; have y2 := keepc hx c2; have y3 := keepc hx d0; have y4 := keepc hx d1; have y5 := keepc hx d2; have y6 := keepc hx f0; have y7 := keepc hx f1; have y8 := keepc hx f2; go_simp; done)
                | (have y0 := keepc hx c0; have y1 := keepc hx c1; have y2 := keepc hx c2; have y3 := keepc hx d0; have y4 := keepc hx d1; have y5 := keepc hx d2; have y6 := keepc hx f0; have y7 := keepc hx f1; have y8 := keepc hx f2; go_simp; with_reducible exact rfl)
              clear hK K))
        | (first | with_reducible refine sk0 ?_ (fun K hK => ?_) | with_reducible refine sk1 ?_ (fun K hK => ?_) | with_reducible refine sk2 ?_ (fun K hK => ?_) | with_reducible refine sk3 ?_ (fun K hK => ?_) | with_reducible refine sk4 ?_ (fun K hK => ?_)
           rfl
           go_simp
           with_reducible refine hK _ _ ?_
           clear hK K)
      first | with_reducible refine sc0 (fun K hK => ?_) | with_reducible refine sc1 (fun K hK => ?_) | with_reducible refine sc2 (fun K hK => ?_) | with_reducible refine sc3 (fun K hK => ?_) | with_reducible refine sc4 (fun K hK => ?_)
      go_simp
      refine (HDA.out _ HX3.out H6T.out).mono ?_
      clear c0 c1 c2 d0 d1 d2 f0 f1 f2
      rintro e x4 ⟨rfl, hb9⟩
      refine ⟨hb9, hK _ _ ?_⟩
      clear hK K
      have HX4 := Lib.hid (HX3.out.trans (hb9.mono (HLE.out _ HX3.out)))
      clear hb9
      obtain ⟨c0, c1, c2, d0, d1, d2, f0, f1, f2⟩ := HCELL.out x4 HX4.out
      repeat
        first
        | (first | with_reducible refine sp0 (fun K hK => ?_) | with_reducible refine sp1 (fun K hK => ?_) | with_reducible refine sp2 (fun K hK => ?_) | with_reducible refine sp3 (fun K hK => ?_) | with_reducible refine sp4 (fun K hK => ?_)
           go_simp
           first
           | (with_reducible refine hK _ _ ?_; clear hK K)
           | (with_reducible apply Exists.intro
              refine ⟨fun x hx => ?_, hK _ _ ?_⟩
              first
                | (with_reducible exact rfl)
                | (have y0 := keepc hx c0; have y1 := keepc hx c1; have y2 := keepc hx c2; have y3 := keepc hx d0; have y4 := keepc hx d1; have y5 := keepc hx d2; have y6 := keepc hx f0; have y7 := keepc hx f1; have y8 := keepc hx f2; go_simp; done)
                | (have y0 := keepc hx c0; have y1 := keepc hx c1; have y2 := keepc hx c2; have y3 := keepc hx d0; have y4 := keepc hx d1; have y5 := keepc hx d2; have y6 := keepc hx f0; have y7 := keepc hx f1; have y8 := keepc hx f2; go_simp; with_reducible exact rfl)
              clear hK K))
        | (first | with_reducible refine sk0 ?_ (fun K hK => ?_) | with_reducible refine sk1 ?_ (fun K hK => ?_) | with_reducible refine sk2 ?_ (fun K hK => ?_) | with_reducible refine sk3 ?_ (fun K hK => ?_) | with_reducible refine sk4 ?_ (fun K hK => ?_)
           rfl
           go_simp
           with_reducible refine hK _ _ ?_
           clear hK K)
      first | with_reducible refine sc0 (fun K hK => ?_) | with_reducible refine sc1 (fun K hK => ?_) | with_reducible refine sc2 (fun K hK => ?_) | with_reducible refine sc3 (fun K hK => ?_) | with_reducible refine sc4 (fun K hK => ?_)
      go_simp
      refine (HDB2.out _ HX4.out H6U3.out).mono ?_
      clear c0 c1 c2 d0 d1 d2 f0 f1 f2
      rintro e x5 ⟨rfl, hb9⟩
      refine ⟨hb9, hK _ _ ?_⟩
      clear hK K
      have HX5 := Lib.hid (HX4.out.trans (hb9.mono (HLE.out _ HX4.out)))
      clear hb9
      obtain ⟨c0, c1, c2, d0, d1, d2, f0, f1, f2⟩ := HCELL.out x5 HX5.out
      repeat
        first
        | (first | with_reducible refine sp0 (fun K hK => ?_) | with_reducible refine sp1 (fun K hK => ?_) | with_reducible refine sp2 (fun K hK => ?_) | with_reducible refine sp3 (fun K hK => ?_) | with_reducible refine sp4 (fun K hK => ?_)
           go_simp
           first
           | (with_reducible refine hK _ _ ?_; clear hK K)
           | (with_reducible apply Exists.intro
              refine ⟨fun x hx => ?_, hK _ _ ?_⟩
              first
                | (with_reducible exact rfl)
                | (have y0 := keepc hx c0; have y1 := keepc hx c1; have y2 := keepc hx c2; have y3 := keepc hx d0; have y4 := keepc hx d1; have y5 := keepc hx d2; have y6 := keepc hx f0; have y7 := keepc hx f1; have y8 := keepc hx f2; go_simp; done)
                | (have y0 := keepc hx c0; have y1 := keepc hx c1; have y2 := keepc hx c2; have y3 := keepc hx d0; have y4 := keepc hx d1; have y5 := keepc hx d2; have y6 := keepc hx f0; have y7 := keepc hx f1; have y8 := keepc hx f2; go_simp; with_reducible exact rfl)
              clear hK K))
        | (first | with_reducible refine sk0 ?_ (fun K hK => ?_) | with_reducible refine sk1 ?_ (fun K hK => ?_) | with_reducible refine sk2 ?_ (fun K hK => ?_) | with_reducible refine sk3 ?_ (fun K hK => ?_) | with_reducible refine sk4 ?_ (fun K hK => ?_)
           rfl
           go_simp
           with_reducible refine hK _ _ ?_
           clear hK K)
      first | with_reducible refine sc0 (fun K hK => ?_) | with_reducible refine sc1 (fun K hK => ?_) | with_reducible refine sc2 (fun K hK => ?_) | with_reducible refine sc3 (fun K hK => ?_) | with_reducible refine sc4 (fun K hK => ?_)
      go_simp
      refine (HCA.out _ HX5.out H6T.out).mono ?_
      clear c0 c1 c2 d0 d1 d2 f0 f1 f2
      rintro e x6 ⟨rfl, hb9⟩
      refine ⟨hb9, hK _ _ ?_⟩
      clear hK K
      have HX6 := Lib.hid (HX5.out.trans (hb9.mono (HLE.out _ HX5.out)))
      clear hb9
      obtain ⟨c0, c1, c2, d0, d1, d2, f0, f1, f2⟩ := HCELL.out x6 HX6.out
      repeat
        first
        | (first | with_reducible refine sp0 (fun K hK => ?_) | with_reducible refine sp1 (fun K hK => ?_) | with_reducible refine sp2 (fun K hK => ?_) | with_reducible refine sp3 (fun K hK => ?_) | with_reducible refine sp4 (fun K hK => ?_)
           go_simp
           first
           | (with_reducible refine hK _ _ ?_; clear hK K)
           | (with_reducible apply Exists.intro
              refine ⟨fun x hx => ?_, hK _ _ ?_⟩
              first
                | (with_reducible exact rfl)
                | (have y0 := keepc hx c0; have y1 := keepc hx c1; have y2 := keepc hx c2; have y3 := keepc hx d0; have y4 := keepc hx d1; have y5 := keepc hx d2; have y6 := keepc hx f0; have y7 := keepc hx f1; have y8 := keepc hx f2; go_simp; done)
                | (have y0 := keepc hx c0; have y1 := keepc hx c1; have y2 := keepc hx c2; have y3 := keepc hx d0; have y4 := keepc hx d1; have y5 := keepc hx d2; have y6 := keepc hx f0; have y7 := keepc hx f1; have y8 := keepc hx f2; go_simp; with_reducible exact rfl)
              clear hK K))
        | (first | with_reducible refine sk0 ?_ (fun K hK => ?_) | with_reducible refine sk1 ?_ (fun K hK => ?_) | with_reducible refine sk2 ?_ (fun K hK => ?_) | with_reducible refine sk3 ?_ (fun K hK => ?_) | with_reducible refine sk4 ?_ (fun K hK => ?_)
           rfl
           go_simp
           with_reducible refine hK _ _ ?_
           clear hK K)
      first | with_reducible refine sc0 (fun K hK => ?_) | with_reducible refine sc1 (fun K hK => ?_) | with_reducible refine sc2 (fun K hK => ?_) | with_reducible refine sc3 (fun K hK => ?_) | with_reducible refine sc4 (fun K hK => ?_)
      go_simp
      refine (HCB2.out _ HX6.out H6U3.out).mono ?_
      clear c0 c1 c2 d0 d1 d2 f0 f1 f2
      rintro e x7 ⟨rfl, hb9⟩
      refine ⟨hb9, hK _ _ ?_⟩
      clear hK K
      have HX7 := Lib.hid (HX6.out.trans (hb9.mono (HLE.out _ HX6.out)))
      clear hb9
      obtain ⟨c0, c1, c2, d0, d1, d2, f0, f1, f2⟩ := HCELL.out x7 HX7.out
      repeat
        first
        | (first | with_reducible refine sp0 (fun K hK => ?_) | with_reducible refine sp1 (fun K hK => ?_) | with_reducible refine sp2 (fun K hK => ?_) | with_reducible refine sp3 (fun K hK => ?_) | with_reducible refine sp4 (fun K hK => ?_)
           go_simp
           first
           | (with_reducible refine hK _ _ ?_; clear hK K)
           | (with_reducible apply Exists.intro
              refine ⟨fun x hx => ?_, hK _ _ ?_⟩
              first
                | (with_reducible exact rfl)
                | (have y0 := keepc hx c0; have y1 := keepc hx c1; have y2 := keepc hx c2; have y3 := keepc hx d0; have y4 := keepc hx d1; have y5 := keepc hx d2; have y6 := keepc hx f0; have y7 := keepc hx f1; have y8 := keepc hx f2; go_simp; done)
                | (have y0 := keepc hx c0; have y1 := keepc hx c1; have y2 := keepc hx c2; have y3 := keepc hx d0; have y4 := keepc hx d1; have y5 := keepc hx d2; have y6 := keepc hx f0; have y7 := keepc hx f1; have y8 := keepc hx f2; go_simp; with_reducible exact rfl)
              clear hK K))
        | (first | with_reducible refine sk0 ?_ (fun K hK => ?_) | with_reducible refine sk1 ?_ (fun K hK => ?_) | with_reducible refine sk2 ?_ (fun K hK => ?_) | with_reducible refine sk3 ?_ (fun K hK => ?_) | with_reducible refine sk4 ?_ (fun K hK => ?_)
           rfl
           go_simp
           with_reducible refine hK _ _ ?_
           clear hK K)
      first | with_reducible refine sc0 (fun K hK => ?_) | with_reducible refine sc1 (fun K hK => ?_) | with_reducible refine sc2 (fun K hK => ?_) | with_reducible refine sc3 (fun K hK => ?_) | with_reducible refine sc4 (fun K hK => ?_)
      go_simp
      refine (HVA.out _ HX7.out H6T.out).mono ?_
      clear c0 c1 c2 d0 d1 d2 f0 f1 f2
      rintro e y1 ⟨v1, rfl, own1, hb⟩
      obtain ⟨a6, c6, rfl⟩ := own_shape' own1
      refine ⟨hb, hK _ _ ?_⟩
      clear hK K
      have HR1 := Lib.hid (IntRow.of_own own1).2; have HY1 := Lib.hid (HX7.out.trans (hb.mono (HLE.out _ HX7.out)))
      clear own1 hb
      obtain ⟨c0, c1, c2, d0, d1, d2, f0, f1, f2⟩ := HCELL.out y1 HY1.out
      repeat
        first
        | (first | with_reducible refine sp0 (fun K hK => ?_) | with_reducible refine sp1 (fun K hK => ?_) | with_reducible refine sp2 (fun K hK => ?_) | with_reducible refine sp3 (fun K hK => ?_) | with_reducible refine sp4 (fun K hK => ?_)
           go_simp
           first
           | (with_reducible refine hK _ _ ?_; clear hK K)
           | (with_reducible apply Exists.intro
              refine ⟨fun x hx => ?_, hK _ _ ?_⟩
              first
                | (with_reducible exact rfl)
                | (have y0 := keepc hx c0; have y1 := keepc hx c1; have y2 := keepc hx c2; have y3 := keepc hx d0; have y4 := keepc hx d1; have y5 := keepc hx d2; have y6 := keepc hx f0; have y7 := keepc hx f1; have y8 := keepc hx f2; go_simp; done)
                | (have y0 := keepc hx c0; have y1 := keepc hx c1; have y2 := keepc hx c2; have y3 := keepc hx d0; have y4 := keepc hx d1; have y5 := keepc hx d2; have y6 := keepc hx f0; have y7 := keepc hx f1; have y8 := keepc hx f2; go_simp; with_reducible exact rfl)
              clear hK K))
        | (first | with_reducible refine sk0 ?_ (fun K hK => ?_) | with_reducible refine sk1 ?_ (fun K hK => ?_) | with_reducible refine sk2 ?_ (fun K hK => ?_) | with_reducible refine sk3 ?_ (fun K hK => ?_) | with_reducible refine sk4 ?_ (fun K hK => ?_)
           rfl
           go_simp
           with_reducible refine hK _ _ ?_
           clear hK K)
      first | with_reducible refine sc0 (fun K hK => ?_) | with_reducible refine sc1 (fun K hK => ?_) | with_reducible refine sc2 (fun K hK => ?_) | with_reducible refine sc3 (fun K hK => ?_) | with_reducible refine sc4 (fun K hK => ?_)
      go_simp
      refine (HVB2.out _ HY1.out H6U3.out).mono ?_
      clear c0 c1 c2 d0 d1 d2 f0 f1 f2
      rintro e y2 ⟨v2, rfl, own2, hb⟩
      obtain ⟨a7, c7, rfl⟩ := own_shape' own2
      refine ⟨hb, hK _ _ ?_⟩
      clear hK K
      have HR2 := Lib.hid (IntRow.of_own own2).2; have HR1' := Lib.hid (HR1.out.below hb (Nat.le_refl _)); have HY2 := Lib.hid (HY1.out.trans (hb.mono (HLE.out _ HY1.out)))
      have hin := ints_any (Tp.vars t []) (Tp.vars t []) a6 c6 a7 c7 y2 (vlen_big H6T.out) (vlen_big H6T.out) HR1'.out HR2.out
      rw [decide_eq_true rfl] at hin
      have HIN := Lib.hid hin
      clear own2 hb hin
      obtain ⟨c0, c1, c2, d0, d1, d2, f0, f1, f2⟩ := HCELL.out y2 HY2.out
      repeat
        first
        | (first | with_reducible refine sp0 (fun K hK => ?_) | with_reducible refine sp1 (fun K hK => ?_) | with_reducible refine sp2 (fun K hK => ?_) | with_reducible refine sp3 (fun K hK => ?_) | with_reducible refine sp4 (fun K hK => ?_)
           go_simp
           first
           | (with_reducible refine hK _ _ ?_; clear hK K)
           | (with_reducible apply Exists.intro
              refine ⟨fun x hx => ?_, hK _ _ ?_⟩
              first
                | (with_reducible exact rfl)
                | (have y0 := keepc hx c0; have y1 := keepc hx c1; have y2 := keepc hx c2; have y3 := keepc hx d0; have y4 := keepc hx d1; have y5 := keepc hx d2; have y6 := keepc hx f0; have y7 := keepc hx f1; have y8 := keepc hx f2; go_simp; done)
                | (have y0 := keepc hx c0; have y1 := keepc hx c1; have y2 := keepc hx c2; have y3 := keepc hx d0; have y4 := keepc hx d1; have y5 := keepc hx d2; have y6 := keepc hx f0; have y7 := keepc hx f1; have y8 := keepc hx f2; go_simp; with_reducible exact rfl)
              clear hK K))
        | (first | with_reducible refine sk0 ?_ (fun K hK => ?_) | with_reducible refine sk1 ?_ (fun K hK => ?_) | with_reducible refine sk2 ?_ (fun K hK => ?_) | with_reducible refine sk3 ?_ (fun K hK => ?_) | with_reducible refine sk4 ?_ (fun K hK => ?_)
           rfl
           go_simp
           with_reducible refine hK _ _ ?_
           clear hK K)
      first | with_reducible refine sc0 (fun K hK => ?_) | with_reducible refine sc1 (fun K hK => ?_) | with_reducible refine sc2 (fun K hK => ?_) | with_reducible refine sc3 (fun K hK => ?_) | with_reducible refine sc4 (fun K hK => ?_)
      go_simp
      refine (HIN.out).mono ?_
      clear c0 c1 c2 d0 d1 d2 f0 f1 f2
      rintro e y3 ⟨rfl, hb⟩
      refine ⟨hb, hK _ _ ?_⟩
      clear hK K
      have HY3 := Lib.hid (HY2.out.trans (hb.mono (HLE.out _ HY2.out)))
      clear hb
      repeat
        first
        | (first | with_reducible refine sp0 (fun K hK => ?_) | with_reducible refine sp1 (fun K hK => ?_) | with_reducible refine sp2 (fun K hK => ?_) | with_reducible refine sp3 (fun K hK => ?_) | with_reducible refine sp4 (fun K hK => ?_)
           go_simp
           first
           | (with_reducible refine hK _ _ ?_; clear hK K)
           | (with_reducible apply Exists.intro
              refine ⟨fun x hx => ?_, hK _ _ ?_⟩
              first
                | (with_reducible exact rfl)
              clear hK K))
        | (first | with_reducible refine sk0 ?_ (fun K hK => ?_) | with_reducible refine sk1 ?_ (fun K hK => ?_) | with_reducible refine sk2 ?_ (fun K hK => ?_) | with_reducible refine sk3 ?_ (fun K hK => ?_) | with_reducible refine sk4 ?_ (fun K hK => ?_)
           rfl
           go_simp
           with_reducible refine hK _ _ ?_
           clear hK K)
      with_reducible refine seq_nil ?_
      go_wp2_with fail
      refine (wakes_any y3).mono ?_
      rintro e y4 ⟨rfl, h9⟩
      go_wp2_with fail
      go_ret
      exact ⟨rfl, HBW.out _ (HY3.out.trans (h9.mono (HLE.out _ HY3.out)))⟩
end Go.Proofs.Ytlmcklicnmbhdaa
