/- The law NoteLoose: its walk. -/
import Derived.Test.YtideicoifinnoaaDoorNlB
import Derived.Test.YtideicoifinnoaaDoorSeqR
import Derived.Deep.DeepCutAuto
namespace Go.Proofs.YtideicoifinnoaaDoor
open Go Go.RowKit
open Tp (T)

theorem rem_five (n : Int) : ∃ j : Nat, j < 5 ∧ (IntKind.u64.wrap n).tmod 5 = (j : Int) := by
  have h : 0 ≤ IntKind.u64.wrap n := by
    simp [IntKind.wrap, IntKind.bits, IntKind.signed]
    omega
  have h1 : 0 ≤ (IntKind.u64.wrap n).tmod 5 ∧ (IntKind.u64.wrap n).tmod 5 < 5 := by
    rw [Int.tmod_eq_emod_of_nonneg h]; omega
  exact ⟨((IntKind.u64.wrap n).tmod 5).toNat, by omega, by omega⟩
theorem textOf_cl {t : T} (h : Nt.Cl t) : textOf t = Nt.text t := by unfold textOf; rw [if_pos h.1]
theorem below_base {B : Nat} {w w' : World} (h : Below w.heap.size w w') (hB : B ≤ w.heap.size) : Below B w w' := h.mono hB
set_option maxRecDepth 100000 in
set_option maxHeartbeats 8000000 in
theorem walk_noteLoose (t : T) (a : Option Addr) (cap : Nat) (u : T) (b : Option Addr) (cap' : Nat) (v : T) (c : Option Addr) (cap2 : Nat) (x : Int) (w : World) (hg : Good w) (hx : I64 x) (hty : TyAt (LT w.heap.size) w t a cap) (hty' : TyAt (LT w.heap.size) w u b cap') (hty2 : TyAt (LT w.heap.size) w v c cap2) :
    Calls Tryd.prog 5 #[tv t a cap, tv u b cap', tv v c cap2, .int .i64 x] w fun e w' => e = .returned (.bool true) ∧ Below w.heap.size w w' := by
  obtain ⟨k0, hk0⟩ : ∃ k0, t.kind = k0 := ⟨_, rfl⟩
  obtain ⟨n0, hn0⟩ : ∃ n0, t.num = n0 := ⟨_, rfl⟩
  obtain ⟨m0, hm0⟩ : ∃ m0, t.kids.length = m0 := ⟨_, rfl⟩
  obtain ⟨k9, hk9⟩ : ∃ k0, u.kind = k0 := ⟨_, rfl⟩
  obtain ⟨n9, hn9⟩ : ∃ n0, u.num = n0 := ⟨_, rfl⟩
  obtain ⟨m9, hm9⟩ : ∃ m0, u.kids.length = m0 := ⟨_, rfl⟩
  obtain ⟨k8, hk8⟩ : ∃ k0, v.kind = k0 := ⟨_, rfl⟩
  obtain ⟨n8, hn8⟩ : ∃ n0, v.num = n0 := ⟨_, rfl⟩
  obtain ⟨m8, hm8⟩ : ∃ m0, v.kids.length = m0 := ⟨_, rfl⟩
  obtain ⟨hv, hhv⟩ : ∃ hv, decide (600 < Tp.sizes [t, u, v]) = hv := ⟨_, rfl⟩
  obtain ⟨W0, hW0⟩ : ∃ W, ((w.alloc (.cells #[.int .i64 k0, .int .i64 n0, .slice a m0 cap] 24)).alloc (.cells #[.int .i64 k9, .int .i64 n9, .slice b m9 cap'] 24)).alloc (.cells #[.int .i64 k8, .int .i64 n8, .slice c m8 cap2] 24) = W := ⟨_, rfl⟩
  obtain ⟨hcell, htw, huw, hvw, hle, hbw, hsz0⟩ := box_three hty hty' hty2 hW0
  have hgw := fun w1 (hb : Below (w.heap.size + 3) W0 w1) => hg.below (hbw w1 hb)
  have hhe := fun w1 (hb : Below (w.heap.size + 3) W0 w1) => heavy_any [t, u, v] (some ⟨w1.heap.size, 0, none⟩) 3 _ (by simp) (row_three (htw w1 hb) (huw w1 hb) (hvw w1 hb) hk0 hn0 hm0 hk9 hn9 hm9 hk8 hn8 hm8)
  have hsz : hv = false → Tp.size t + Tp.size u + Tp.size v ≤ 600 := fun h => by
    rw [h, sizes_three] at hhv
    simp only [decide_eq_false_iff_not] at hhv
    omega
  have hra := fun w1 (hb : Below (w.heap.size + 3) W0 w1) => rright_any _ t a cap w1 (Nat.le_refl _) (htw w1 hb)
  have hwa := fun w1 (hb : Below (w.heap.size + 3) W0 w1) => rwithout_any 6 _ t a cap w1 (Nat.le_refl _) (htw w1 hb)
  have hta := fun w1 (hb : Below (w.heap.size + 3) W0 w1) (h : Tp.size t ≤ 600) => text_any t a cap w1 (sz_le h) (htw w1 hb) (hgw w1 hb)
  have hrb := fun w1 (hb : Below (w.heap.size + 3) W0 w1) => rright_any _ u b cap' w1 (Nat.le_refl _) (huw w1 hb)
  have hwb := fun w1 (hb : Below (w.heap.size + 3) W0 w1) => rwithout_any 6 _ u b cap' w1 (Nat.le_refl _) (huw w1 hb)
  have htb := fun w1 (hb : Below (w.heap.size + 3) W0 w1) (h : Tp.size u ≤ 600) => text_any u b cap' w1 (sz_le h) (huw w1 hb) (hgw w1 hb)
  have hrc := fun w1 (hb : Below (w.heap.size + 3) W0 w1) => rright_any _ v c cap2 w1 (Nat.le_refl _) (hvw w1 hb)
  have hwc := fun w1 (hb : Below (w.heap.size + 3) W0 w1) => rwithout_any 6 _ v c cap2 w1 (Nat.le_refl _) (hvw w1 hb)
  have htc := fun w1 (hb : Below (w.heap.size + 3) W0 w1) (h : Tp.size v ≤ 600) => text_any v c cap2 w1 (sz_le h) (hvw w1 hb) (hgw w1 hb)
  obtain ⟨r1, hr1⟩ : ∃ x, Tp.right t = x := ⟨_, rfl⟩
  obtain ⟨q1, hq1⟩ : ∃ x, Tp.without 6 t = x := ⟨_, rfl⟩
  obtain ⟨s1, hs1⟩ : ∃ x, textOf t = x := ⟨_, rfl⟩
  obtain ⟨r2, hr2⟩ : ∃ x, Tp.right u = x := ⟨_, rfl⟩
  obtain ⟨q2, hq2⟩ : ∃ x, Tp.without 6 u = x := ⟨_, rfl⟩
  obtain ⟨s2, hs2⟩ : ∃ x, textOf u = x := ⟨_, rfl⟩
  obtain ⟨r3, hr3⟩ : ∃ x, Tp.right v = x := ⟨_, rfl⟩
  obtain ⟨q3, hq3⟩ : ∃ x, Tp.without 6 v = x := ⟨_, rfl⟩
  obtain ⟨s3, hs3⟩ : ∃ x, textOf v = x := ⟨_, rfl⟩
  have hwk := fun w1 (hb : Below (w.heap.size + 3) W0 w1) => wakes_any w1 (hgw w1 hb)
  have hte : tv t a cap = Value.agg #[.int .i64 k0, .int .i64 n0, .slice a m0 cap] := by unfold tv; rw [hk0, hn0, hm0]
  have hue : tv u b cap' = Value.agg #[.int .i64 k9, .int .i64 n9, .slice b m9 cap'] := by unfold tv; rw [hk9, hn9, hm9]
  have hve : tv v c cap2 = Value.agg #[.int .i64 k8, .int .i64 n8, .slice c m8 cap2] := by unfold tv; rw [hk8, hn8, hm8]
  have hsc : hv = false → r1 = true → r2 = true → r3 = true → q1 = true → q2 = true → q3 = true → ∀ j, (Nt.looseB j s1 s2 s3).length ≤ 10000 ∧ ∃ L, scanAll (Nt.looseB j s1 s2 s3) = .good L ∧ L.length ≤ 100000 ∧ readOut L 0 = (Nt.looseT j t u v, L.length, 0) := fun h g1 g2 g3 f1 f2 f3 j => by
    have ca : Nt.Cl t := ⟨hr1.trans g1, hq1.trans f1⟩
    have cb : Nt.Cl u := ⟨hr2.trans g2, hq2.trans f2⟩
    have cc : Nt.Cl v := ⟨hr3.trans g3, hq3.trans f3⟩
    obtain ⟨L, h1, h2⟩ := loose_toks ca cb cc (hsz h) j
    rw [← hs1, ← hs2, ← hs3, textOf_cl ca, textOf_cl cb, textOf_cl cc]
    have l1 := Nt.text_small _ t (Nat.le_refl _) ca.1 ca.2
    have l2 := Nt.text_small _ u (Nat.le_refl _) cb.1 cb.2
    have l3 := Nt.text_small _ v (Nat.le_refl _) cc.1 cc.2
    have l4 := Nt.looseB_len j (Nt.text t) (Nt.text u) (Nt.text v)
    have l5 := hsz h
    exact ⟨by omega, L, h1, scanAll_len h1, h2⟩
  have hln : hv = false → r1 = true → r2 = true → r3 = true → q1 = true → q2 = true → q3 = true → s1.length ≤ 5000 ∧ s2.length ≤ 5000 ∧ s3.length ≤ 5000 := fun h g1 g2 g3 f1 f2 f3 => by
    have ca : Nt.Cl t := ⟨hr1.trans g1, hq1.trans f1⟩
    have cb : Nt.Cl u := ⟨hr2.trans g2, hq2.trans f2⟩
    have cc : Nt.Cl v := ⟨hr3.trans g3, hq3.trans f3⟩
    rw [← hs1, ← hs2, ← hs3, textOf_cl ca, textOf_cl cb, textOf_cl cc]
    have l1 := Nt.text_small _ t (Nat.le_refl _) ca.1 ca.2
    have l2 := Nt.text_small _ u (Nat.le_refl _) cb.1 cb.2
    have l3 := Nt.text_small _ v (Nat.le_refl _) cc.1 cc.2
    have l5 := hsz h
    refine ⟨?_, ?_, ?_⟩ <;> omega
  have hnp : hv = false → r1 = true → r2 = true → r3 = true → q1 = true → q2 = true → q3 = true → ∀ j, Nt.Np (Nt.looseT j t u v) := fun _ g1 g2 g3 f1 f2 f3 j => loose_np ⟨hr1.trans g1, hq1.trans f1⟩ ⟨hr2.trans g2, hq2.trans f2⟩ ⟨hr3.trans g3, hq3.trans f3⟩ j
  obtain ⟨j, hj, hj1⟩ := rem_five x
  rw [hr1] at hra
  rw [hr2] at hrb
  rw [hr3] at hrc
  rw [hq1] at hwa
  rw [hq2] at hwb
  rw [hq3] at hwc
  rw [hs1, hr1] at hta
  rw [hs2, hr2] at htb
  rw [hs3, hr3] at htc
  rw [hte] at hra hwa hta ⊢
  rw [hue] at hrb hwb htb ⊢
  rw [hve] at hrc hwc htc ⊢
  rw [hhv] at hhe
  have b0 := Below.refl (w.heap.size + 3) W0
  have HC := Lib.hid hcell; have HLE := Lib.hid hle; have HBW := Lib.hid hbw; have HHE := Lib.hid hhe; have HSZ := Lib.hid hsz; have HRA := Lib.hid hra; have HRB := Lib.hid hrb; have HRC := Lib.hid hrc; have HWA := Lib.hid hwa; have HWB := Lib.hid hwb; have HWC := Lib.hid hwc; have HTA := Lib.hid hta; have HTB := Lib.hid htb; have HTC := Lib.hid htc; have HWK := Lib.hid hwk; have HTE := Lib.hid hte; have HUE := Lib.hid hue; have HVE := Lib.hid hve; have HSC := Lib.hid hsc; have HLN := Lib.hid hln; have HNP := Lib.hid hnp; have HJ := Lib.hid hj; have HJ1 := Lib.hid hj1; have HS0 := Lib.hid hsz0; have HB0 := Lib.hid b0; have HW0 := Lib.hid hW0; have HTW := Lib.hid htw; have HUW := Lib.hid huw; have HVW := Lib.hid hvw; have HGW := Lib.hid hgw; have HX := Lib.hid hx
  clear hcell hle hbw hhe hsz hra hrb hrc hwa hwb hwc hta htb htc hwk hte hue hve hsc hln hnp hj hj1 hsz0 b0 hW0 htw huw hvw hgw hx hg hty hty' hty2 hhv hk0 hn0 hm0 hk9 hn9 hm9 hk8 hn8 hm8 hr1 hr2 hr3 hq1 hq2 hq3 hs1 hs2 hs3
  go_enter Tryd.func5, Tryd.ntmps5
  go_upto_region 1 with fail
  rw [HW0.out]
  obtain ⟨c0, c1, c2, d0, d1, d2, f0, f1, f2⟩ := HC.out _ HB0.out
  go_wp2_with fail
  refine (HHE.out _ HB0.out).mono ?_
  rintro e w1 ⟨rfl, hb1⟩
  have HB1 := Lib.hid ((HB0.out.alloc (HLE.out _ HB0.out) _).trans (hb1.mono (by rw [World.size_alloc]; have := HLE.out _ HB0.out; omega)))
  clear hb1 c0 c1 c2 d0 d1 d2 f0 f1 f2
  cases hv with
  | true =>
    go_wp2_with fail
    go_ret
    exact ⟨rfl, HBW.out _ HB1.out⟩
  | false =>
    have hz := HSZ.out rfl
    have HSC1 := Lib.hid (HSC.out rfl); have HLN1 := Lib.hid (HLN.out rfl); have HNP1 := Lib.hid (HNP.out rfl)
    clear HSC HLN HNP
    obtain ⟨c0, c1, c2, d0, d1, d2, f0, f1, f2⟩ := HC.out _ HB1.out
    go_wp2_with fail
    refine (HRA.out _ HB1.out).mono ?_
    rintro e w2 ⟨rfl, hb2⟩
    have HB2 := Lib.hid (HB1.out.trans (hb2.mono (HLE.out _ HB1.out)))
    clear hb2 c0 c1 c2 d0 d1 d2 f0 f1 f2
    cases r1 with
    | false =>
      go_wp2_with fail
      go_ret
      exact ⟨rfl, HBW.out _ HB2.out⟩
    | true =>
      obtain ⟨c0, c1, c2, d0, d1, d2, f0, f1, f2⟩ := HC.out _ HB2.out
      go_wp2_with fail
      refine (HRB.out _ HB2.out).mono ?_
      rintro e w3 ⟨rfl, hb3⟩
      have HB3 := Lib.hid (HB2.out.trans (hb3.mono (HLE.out _ HB2.out)))
      clear hb3 c0 c1 c2 d0 d1 d2 f0 f1 f2
      cases r2 with
      | false =>
        go_wp2_with fail
        go_ret
        exact ⟨rfl, HBW.out _ HB3.out⟩
      | true =>
        obtain ⟨c0, c1, c2, d0, d1, d2, f0, f1, f2⟩ := HC.out _ HB3.out
        go_wp2_with fail
        refine (HRC.out _ HB3.out).mono ?_
        rintro e w4 ⟨rfl, hb4⟩
        have HB4 := Lib.hid (HB3.out.trans (hb4.mono (HLE.out _ HB3.out)))
        clear hb4 c0 c1 c2 d0 d1 d2 f0 f1 f2
        cases r3 with
        | false =>
          go_wp2_with fail
          go_ret
          exact ⟨rfl, HBW.out _ HB4.out⟩
        | true =>
          obtain ⟨c0, c1, c2, d0, d1, d2, f0, f1, f2⟩ := HC.out _ HB4.out
          go_wp2_with fail
          refine (HWA.out _ HB4.out).mono ?_
          rintro e w5 ⟨rfl, hb5⟩
          have HB5 := Lib.hid (HB4.out.trans (hb5.mono (HLE.out _ HB4.out)))
          clear hb5 c0 c1 c2 d0 d1 d2 f0 f1 f2
          cases q1 with
          | false =>
            go_wp2_with fail
            go_ret
            exact ⟨rfl, HBW.out _ HB5.out⟩
          | true =>
            obtain ⟨c0, c1, c2, d0, d1, d2, f0, f1, f2⟩ := HC.out _ HB5.out
            go_wp2_with fail
            refine (HWB.out _ HB5.out).mono ?_
            rintro e w6 ⟨rfl, hb6⟩
            have HB6 := Lib.hid (HB5.out.trans (hb6.mono (HLE.out _ HB5.out)))
            clear hb6 c0 c1 c2 d0 d1 d2 f0 f1 f2
            cases q2 with
            | false =>
              go_wp2_with fail
              go_ret
              exact ⟨rfl, HBW.out _ HB6.out⟩
            | true =>
              obtain ⟨c0, c1, c2, d0, d1, d2, f0, f1, f2⟩ := HC.out _ HB6.out
              go_wp2_with fail
              refine (HWC.out _ HB6.out).mono ?_
              rintro e w7 ⟨rfl, hb7⟩
              have HB7 := Lib.hid (HB6.out.trans (hb7.mono (HLE.out _ HB6.out)))
              clear hb7 c0 c1 c2 d0 d1 d2 f0 f1 f2
              cases q3 with
              | false =>
                go_wp2_with fail
                go_ret
                exact ⟨rfl, HBW.out _ HB7.out⟩
              | true =>
                have HSC2 := Lib.hid (HSC1.out (by trivial) (by trivial) (by trivial) (by trivial) (by trivial) (by trivial)); have HLN2 := Lib.hid (HLN1.out (by trivial) (by trivial) (by trivial) (by trivial) (by trivial) (by trivial)); have HNP2 := Lib.hid (HNP1.out (by trivial) (by trivial) (by trivial) (by trivial) (by trivial) (by trivial))
                clear HSC1 HLN1 HNP1
                obtain ⟨c0, c1, c2, d0, d1, d2, f0, f1, f2⟩ := HC.out _ HB7.out
                go_wp2_with fail
                refine (HTA.out _ HB7.out (by omega)).mono ?_
                rintro e w8 ⟨rfl, hb8⟩
                rw [show errOf true = 0 from rfl]
                have HB8 := Lib.hid (HB7.out.trans (hb8.mono (HLE.out _ HB7.out)))
                clear hb8 c0 c1 c2 d0 d1 d2 f0 f1 f2
                obtain ⟨c0, c1, c2, d0, d1, d2, f0, f1, f2⟩ := HC.out _ HB8.out
                go_wp2_with fail
                refine (HTB.out _ HB8.out (by omega)).mono ?_
                rintro e w9 ⟨rfl, hb9⟩
                rw [show errOf true = 0 from rfl]
                have HB9 := Lib.hid (HB8.out.trans (hb9.mono (HLE.out _ HB8.out)))
                clear hb9 c0 c1 c2 d0 d1 d2 f0 f1 f2
                obtain ⟨c0, c1, c2, d0, d1, d2, f0, f1, f2⟩ := HC.out _ HB9.out
                go_wp2_with fail
                refine (HTC.out _ HB9.out (by omega)).mono ?_
                rintro e w10 ⟨rfl, hb10⟩
                rw [show errOf true = 0 from rfl]
                have HB10 := Lib.hid (HB9.out.trans (hb10.mono (HLE.out _ HB9.out)))
                clear hb10 c0 c1 c2 d0 d1 d2 f0 f1 f2
                obtain ⟨hl1, hl2, hl3⟩ := HLN2.out
                have hnp := HNP2.out
                go_upto_region 8 with fail
                have hbox := World.alloc_heap_new w10 (.cells #[.int .i64 0, .int .i64 0, .slice none 0 0] 24)
                have hbM := HB10.out.alloc (HLE.out _ HB10.out) (.cells #[.int .i64 0, .int .i64 0, .slice none 0 0] 24)
                generalize hwM : w10.alloc (.cells #[.int .i64 0, .int .i64 0, .slice none 0 0] 24) = wM at hbox hbM ⊢
                have HBX := Lib.hid hbox; have HBM := Lib.hid hbM; have HWM := Lib.hid hwM
                clear hbox hbM hwM
                have hj1 := HJ1.out
                have hj := HJ.out
                have HNPJ := Lib.hid (hnp j)
                clear hnp
                rcases (show j = 0 ∨ j = 1 ∨ j = 2 ∨ j = 3 ∨ j = 4 by omega) with rfl | rfl | rfl | rfl | rfl
                · go_upto_region 11 with fail
                  refine wp_region_rel (R := Below (w.heap.size + 3)) (fun _ => Below.refl _ _) (fun h1 h2 => h1.trans h2) [(0, false), (0, false), (0, false), (0, false), (0, false), (0, false), (0, false), (0, false), (0, false), (1, false), (0, true), (0, true), (0, false), (0, true)] (by kernel_rfl) (by kernel_rfl) (by kernel_rfl) (fun _ _ _ d _ h => by cases d <;> exact h) ?_
                  have hbd := HBM.out.drew
                  have hchain : Below wM.heap.size wM wM.drew := (Below.refl _ _).drew
                  have hbxd : wM.drew.heap[w10.heap.size]? = some (.cells #[.int .i64 0, .int .i64 0, .slice none 0 0] 24 (0, 0)) := HBX.out
                  generalize wM.drew = wD at hbd hchain hbxd ⊢
                  have HBD := Lib.hid hbd; have HCH := Lib.hid hchain
                  clear hbd hchain hbxd
                  repeat
                    (first | with_reducible refine rp0 (fun K hK => ?_) | with_reducible refine rp1 (fun K hK => ?_) | with_reducible refine rp2 (fun K hK => ?_) | with_reducible refine rp3 (fun K hK => ?_) | with_reducible refine rp4 (fun K hK => ?_) | with_reducible refine rp5 (fun K hK => ?_)
                     go_simp
                     first
                     | (with_reducible refine hK _ _ ?_; clear hK K)
                     | (with_reducible apply Exists.intro
                        refine ⟨fun x hx => ?_, hK _ _ ?_⟩
                        first
                          | (with_reducible exact rfl)
                          | (with_reducible exact if_neg (by omega))
                          | (obtain ⟨y0, y1, y2, y3, y4, y5, y6, y7, y8⟩ := HC.out x (HBD.out.trans hx); go_simp; done)
                          | (obtain ⟨y0, y1, y2, y3, y4, y5, y6, y7, y8⟩ := HC.out x (HBD.out.trans hx); go_simp; with_reducible exact rfl)
                        clear hK K))
                  first | with_reducible refine rc0 (fun K hK => ?_) | with_reducible refine rc1 (fun K hK => ?_)
                  go_simp
                  have hcl := two_any 7 (by unfold I64; omega) t a cap u b cap' _ (HTW.out _ HBD.out) (HUW.out _ HBD.out)
                  rw [HTE.out] at hcl
                  rw [HUE.out] at hcl
                  refine hcl.mono ?_
                  clear hcl
                  rintro e xp0 ⟨ap0, cp0, rfl, hty9, hb9⟩
                  refine ⟨hb9.mono (HLE.out _ HBD.out), hK _ _ ?_⟩
                  clear hK K
                  have HPp0 := Lib.hid hty9
                  have HCH := Lib.hid (HCH.out.trans (hb9.mono HCH.out.size))
                  have HBD := Lib.hid (HBD.out.trans (hb9.mono (HLE.out _ HBD.out)))
                  clear hty9 hb9
                  first | with_reducible refine rc0 (fun K hK => ?_) | with_reducible refine rc1 (fun K hK => ?_)
                  go_simp
                  have hcl := two_any 9 (by unfold I64; omega) (T.mk 7 0 [t, u]) ap0 cp0 v c cap2 _ HPp0.out (HVW.out _ HBD.out)
                  rw [HVE.out] at hcl
                  refine hcl.mono ?_
                  clear hcl
                  rintro e xp1 ⟨ap1, cp1, rfl, hty9, hb9⟩
                  refine ⟨hb9.mono (HLE.out _ HBD.out), hK _ _ ?_⟩
                  clear hK K
                  have HPp0 := Lib.hid (ty_later HPp0.out hb9)
                  have HPp1 := Lib.hid hty9
                  have HCH := Lib.hid (HCH.out.trans (hb9.mono HCH.out.size))
                  have HBD := Lib.hid (HBD.out.trans (hb9.mono (HLE.out _ HBD.out)))
                  clear hty9 hb9
                  repeat
                    (first | with_reducible refine rp0 (fun K hK => ?_) | with_reducible refine rp1 (fun K hK => ?_) | with_reducible refine rp2 (fun K hK => ?_) | with_reducible refine rp3 (fun K hK => ?_) | with_reducible refine rp4 (fun K hK => ?_) | with_reducible refine rp5 (fun K hK => ?_)
                     go_simp
                     first
                     | (with_reducible refine hK _ _ ?_; clear hK K)
                     | (with_reducible apply Exists.intro
                        refine ⟨fun x hx => ?_, hK _ _ ?_⟩
                        first
                          | (with_reducible exact rfl)
                          | (with_reducible exact if_neg (by omega))
                          | (obtain ⟨y0, y1, y2, y3, y4, y5, y6, y7, y8⟩ := HC.out x (HBD.out.trans hx); go_simp; done)
                          | (obtain ⟨y0, y1, y2, y3, y4, y5, y6, y7, y8⟩ := HC.out x (HBD.out.trans hx); go_simp; with_reducible exact rfl)
                        clear hK K))
                  have hbxf : xp1.heap[w10.heap.size]? = some (.cells #[.int .i64 0, .int .i64 0, .slice none 0 0] 24 (0, 0)) := (HCH.out.block _ (Array.getElem?_eq_some_iff.1 HBX.out).1).trans HBX.out
                  have z0 : xp1.cell? ⟨w10.heap.size, 0, none⟩ = some (.int .i64 0) := cell_box hbxf rfl rfl
                  have z1 : xp1.cell? ⟨w10.heap.size, 1, none⟩ = some (.int .i64 0) := cell_box hbxf rfl rfl
                  have z2 : xp1.cell? ⟨w10.heap.size, 2, none⟩ = some (.slice none 0 0) := cell_box hbxf rfl rfl
                  have zf : ∀ o, xp1.frozen? ⟨w10.heap.size, o, none⟩ = false := fun o => by simp [World.frozen?, hbxf]
                  have HPB := Lib.hid (put_box hbxf HNPJ.out HPp1.out rfl)
                  clear hbxf
                  first | with_reducible refine rc0 (fun K hK => ?_) | with_reducible refine rc1 (fun K hK => ?_)
                  rw [show tv (T.mk 9 0 [T.mk 7 0 [t, u], v]) ap1 cp1 = Value.agg #[.int .i64 9, .int .i64 0, .slice ap1 2 cp1] from rfl]
                  go_simp
                  have hML : w.heap.size + 3 ≤ w10.heap.size := HLE.out _ HB10.out
                  have hbs : Below (w.heap.size + 3) xp1 (((xp1.setCell ⟨w10.heap.size, 0, none⟩ (.int .i64 9)).setCell ⟨w10.heap.size, 1, none⟩ (.int .i64 0)).setCell ⟨w10.heap.size, 2, none⟩ (.slice ap1 2 cp1)) := (((Below.refl _ _).setCell (p := ⟨w10.heap.size, 0, none⟩) hML _).setCell (p := ⟨w10.heap.size, 1, none⟩) hML _).setCell (p := ⟨w10.heap.size, 2, none⟩) hML _
                  refine ⟨hbs, hK _ _ ?_⟩
                  clear hK K
                  with_reducible refine rel_nil ?_
                  have hbx : (((xp1.setCell ⟨w10.heap.size, 0, none⟩ (.int .i64 9)).setCell ⟨w10.heap.size, 1, none⟩ (.int .i64 0)).setCell ⟨w10.heap.size, 2, none⟩ (.slice ap1 2 cp1)).heap[w10.heap.size]? = some (.cells #[.int .i64 9, .int .i64 0, .slice ap1 2 cp1] 24 (0, 0)) := HPB.out.1
                  have htx : TyAt (LT (((xp1.setCell ⟨w10.heap.size, 0, none⟩ (.int .i64 9)).setCell ⟨w10.heap.size, 1, none⟩ (.int .i64 0)).setCell ⟨w10.heap.size, 2, none⟩ (.slice ap1 2 cp1)).heap.size) (((xp1.setCell ⟨w10.heap.size, 0, none⟩ (.int .i64 9)).setCell ⟨w10.heap.size, 1, none⟩ (.int .i64 0)).setCell ⟨w10.heap.size, 2, none⟩ (.slice ap1 2 cp1)) (Nt.looseT 0 t u v) ap1 cp1 := HPB.out.2
                  have hbf := HBD.out.trans hbs
                  clear z0 z1 z2 zf hbs hML HPB
                  generalize ((xp1.setCell ⟨w10.heap.size, 0, none⟩ (.int .i64 9)).setCell ⟨w10.heap.size, 1, none⟩ (.int .i64 0)).setCell ⟨w10.heap.size, 2, none⟩ (.slice ap1 2 cp1) = wf at hbx htx hbf ⊢
                  obtain ⟨hlen, L, hL, hL1, hL2⟩ := HSC2.out 0
                  obtain ⟨cap1, wg, hcv, hH, hB⟩ := conv_bytes (Nt.looseB 0 s1 s2 s3) wf
                  have hbg := hbf.trans (hB.mono (HLE.out _ hbf))
                  have hss := scan_any _ cap1 _ wg hH (HGW.out _ hbg)
                  rw [hL] at hss
                  have e32 : (⟨(Nt.looseB 0 s1 s2 s3).toArray⟩ : ByteArray) = ({ data := #[40] } ++ { data := s1.toArray } ++ { data := #[41] }) ++ { data := #[42] } ++ ({ data := #[40] } ++ { data := s2.toArray } ++ { data := #[41] }) ++ { data := #[45, 62] } ++ ({ data := #[40, 40] } ++ { data := s3.toArray } ++ { data := #[41, 41] }) := ba_ext2 (by simp [Nt.looseB, Nt.brX, Nt.brZ])
                  rw [e32] at hcv
                  obtain ⟨n, hn⟩ : ∃ n, (Nt.looseB 0 s1 s2 s3).length = n := ⟨_, rfl⟩
                  rw [hn] at hcv hss
                  have HBG := Lib.hid hbg; have HSS := Lib.hid hss; have HBXF := Lib.hid hbx; have HTXF := Lib.hid htx; have HFG := Lib.hid hB; have HL1 := Lib.hid hL1; have HL2 := Lib.hid hL2
                  clear hbg hss hL hL1 hL2 hH hB e32 hn hlen hbx htx hbf
                  go_wp2_with fail
                  refine HSS.out.mono ?_
                  rintro e wh ⟨v7, rfl, hown, hb7⟩
                  obtain ⟨a7, cap7, rfl⟩ := own_shape' hown
                  have ht := (tks_own hown).2
                  have HBH := Lib.hid (HBG.out.trans (hb7.mono (HLE.out _ HBG.out))); have HFH := Lib.hid (HFG.out.trans (hb7.mono HFG.out.size))
                  have hrd := read_any a7 cap7 L 0 wh ht HL1.out (by unfold I64; omega) (HGW.out _ HBH.out)
                  unfold ReadPost at hrd
                  rw [HL2.out, show tv (Nt.looseT 0 t u v) = fun a cap => Value.agg #[.int .i64 9, .int .i64 0, .slice a 2 cap] from rfl] at hrd
                  obtain ⟨ll, hll⟩ : ∃ ll, L.length = ll := ⟨_, rfl⟩
                  rw [hll] at hrd ⊢
                  have HRD := Lib.hid hrd
                  clear hrd hown ht hb7 hcv hll HL2 HSS
                  go_wp2_with fail
                  refine HRD.out.mono ?_
                  rintro e wi ⟨a8, cap8, rfl, hty8, hb8⟩
                  have hbi := HBH.out.trans (hb8.mono (HLE.out _ HBH.out))
                  have hal : Below wi.heap.size wi (wi.alloc (.cells #[.int .i64 9, .int .i64 0, .slice a8 2 cap8] 24)) := (Below.refl _ _).alloc (Nat.le_refl _) _
                  have hnw := World.alloc_heap_new wi (.cells #[.int .i64 9, .int .i64 0, .slice a8 2 cap8] 24)
                  obtain ⟨wj, hwj⟩ : ∃ wj, wi.alloc (.cells #[.int .i64 9, .int .i64 0, .slice a8 2 cap8] 24) = wj := ⟨_, rfl⟩
                  rw [hwj] at hal hnw
                  have hfj := HFH.out.trans ((hb8.trans (hal.mono hb8.size)).mono HFH.out.size)
                  have hbj := hbi.trans (hal.mono (HLE.out _ hbi))
                  have hsm := ksame_any _ (Nt.looseT 0 t u v) (Nt.looseT 0 t u v) a8 cap8 ap1 cp1 wj (Nat.le_refl _) (ty_later hty8 hal) (ty_later HTXF.out hfj)
                  rw [Tp.same_refl, show tv (Nt.looseT 0 t u v) = fun a cap => Value.agg #[.int .i64 9, .int .i64 0, .slice a 2 cap] from rfl] at hsm
                  have x0 : wj.cell? ⟨wi.heap.size, 0, none⟩ = some (.int .i64 9) := cell_box hnw rfl rfl
                  have x1 : wj.cell? ⟨wi.heap.size, 1, none⟩ = some (.int .i64 0) := cell_box hnw rfl rfl
                  have x2 : wj.cell? ⟨wi.heap.size, 2, none⟩ = some (.slice a8 2 cap8) := cell_box hnw rfl rfl
                  have hlt : w10.heap.size < wf.heap.size := (Array.getElem?_eq_some_iff.1 HBXF.out).1
                  have y0 : wj.cell? ⟨w10.heap.size, 0, none⟩ = some (.int .i64 9) := cell_box HBXF.out (hfj.block _ hlt) rfl
                  have y1 : wj.cell? ⟨w10.heap.size, 1, none⟩ = some (.int .i64 0) := cell_box HBXF.out (hfj.block _ hlt) rfl
                  have y2 : wj.cell? ⟨w10.heap.size, 2, none⟩ = some (.slice ap1 2 cp1) := cell_box HBXF.out (hfj.block _ hlt) rfl
                  have HBJ := Lib.hid hbj; have HSMJ := Lib.hid hsm; have HWJ := Lib.hid hwj
                  clear hbi hal hnw hwj hfj hbj hsm hlt hb8 hty8 HRD
                  go_upto_region 20 with fail
                  rw [HWJ.out]
                  go_wp2_with fail
                  refine HSMJ.out.mono ?_
                  rintro e wa ⟨rfl, hba⟩
                  have HBA := Lib.hid (HBJ.out.trans (hba.mono (HLE.out _ HBJ.out)))
                  clear hba x0 x1 x2 y0 y1 y2
                  go_wp2_with fail
                  refine (HWK.out _ HBA.out).mono ?_
                  rintro e wb ⟨rfl, hbb⟩
                  have HBB := Lib.hid (HBA.out.trans (hbb.mono (HLE.out _ HBA.out)))
                  clear hbb
                  go_wp2_with fail
                  go_ret
                  exact ⟨rfl, HBW.out _ HBB.out⟩
                · go_upto_region 13 with fail
                  refine wp_region_rel (R := Below (w.heap.size + 3)) (fun _ => Below.refl _ _) (fun h1 h2 => h1.trans h2) [(0, false), (0, false), (0, false), (0, false), (0, false), (0, false), (0, false), (0, false), (0, false), (0, false), (0, true), (0, true), (0, false), (0, true)] (by kernel_rfl) (by kernel_rfl) (by kernel_rfl) (fun _ _ _ d _ h => by cases d <;> exact h) ?_
                  have hbd := HBM.out.drew
                  have hchain : Below wM.heap.size wM wM.drew := (Below.refl _ _).drew
                  have hbxd : wM.drew.heap[w10.heap.size]? = some (.cells #[.int .i64 0, .int .i64 0, .slice none 0 0] 24 (0, 0)) := HBX.out
                  generalize wM.drew = wD at hbd hchain hbxd ⊢
                  have HBD := Lib.hid hbd; have HCH := Lib.hid hchain
                  clear hbd hchain hbxd
                  repeat
                    (first | with_reducible refine rp0 (fun K hK => ?_) | with_reducible refine rp1 (fun K hK => ?_) | with_reducible refine rp2 (fun K hK => ?_) | with_reducible refine rp3 (fun K hK => ?_) | with_reducible refine rp4 (fun K hK => ?_) | with_reducible refine rp5 (fun K hK => ?_)
                     go_simp
                     first
                     | (with_reducible refine hK _ _ ?_; clear hK K)
                     | (with_reducible apply Exists.intro
                        refine ⟨fun x hx => ?_, hK _ _ ?_⟩
                        first
                          | (with_reducible exact rfl)
                          | (with_reducible exact if_neg (by omega))
                          | (obtain ⟨y0, y1, y2, y3, y4, y5, y6, y7, y8⟩ := HC.out x (HBD.out.trans hx); go_simp; done)
                          | (obtain ⟨y0, y1, y2, y3, y4, y5, y6, y7, y8⟩ := HC.out x (HBD.out.trans hx); go_simp; with_reducible exact rfl)
                        clear hK K))
                  first | with_reducible refine rc0 (fun K hK => ?_) | with_reducible refine rc1 (fun K hK => ?_)
                  go_simp
                  have hcl := two_any 9 (by unfold I64; omega) u b cap' v c cap2 _ (HUW.out _ HBD.out) (HVW.out _ HBD.out)
                  rw [HUE.out] at hcl
                  rw [HVE.out] at hcl
                  refine hcl.mono ?_
                  clear hcl
                  rintro e xp0 ⟨ap0, cp0, rfl, hty9, hb9⟩
                  refine ⟨hb9.mono (HLE.out _ HBD.out), hK _ _ ?_⟩
                  clear hK K
                  have HPp0 := Lib.hid hty9
                  have HCH := Lib.hid (HCH.out.trans (hb9.mono HCH.out.size))
                  have HBD := Lib.hid (HBD.out.trans (hb9.mono (HLE.out _ HBD.out)))
                  clear hty9 hb9
                  first | with_reducible refine rc0 (fun K hK => ?_) | with_reducible refine rc1 (fun K hK => ?_)
                  go_simp
                  have hcl := two_any 9 (by unfold I64; omega) t a cap (T.mk 9 0 [u, v]) ap0 cp0 _ (HTW.out _ HBD.out) HPp0.out
                  rw [HTE.out] at hcl
                  refine hcl.mono ?_
                  clear hcl
                  rintro e xp1 ⟨ap1, cp1, rfl, hty9, hb9⟩
                  refine ⟨hb9.mono (HLE.out _ HBD.out), hK _ _ ?_⟩
                  clear hK K
                  have HPp0 := Lib.hid (ty_later HPp0.out hb9)
                  have HPp1 := Lib.hid hty9
                  have HCH := Lib.hid (HCH.out.trans (hb9.mono HCH.out.size))
                  have HBD := Lib.hid (HBD.out.trans (hb9.mono (HLE.out _ HBD.out)))
                  clear hty9 hb9
                  repeat
                    (first | with_reducible refine rp0 (fun K hK => ?_) | with_reducible refine rp1 (fun K hK => ?_) | with_reducible refine rp2 (fun K hK => ?_) | with_reducible refine rp3 (fun K hK => ?_) | with_reducible refine rp4 (fun K hK => ?_) | with_reducible refine rp5 (fun K hK => ?_)
                     go_simp
                     first
                     | (with_reducible refine hK _ _ ?_; clear hK K)
                     | (with_reducible apply Exists.intro
                        refine ⟨fun x hx => ?_, hK _ _ ?_⟩
                        first
                          | (with_reducible exact rfl)
                          | (with_reducible exact if_neg (by omega))
                          | (obtain ⟨y0, y1, y2, y3, y4, y5, y6, y7, y8⟩ := HC.out x (HBD.out.trans hx); go_simp; done)
                          | (obtain ⟨y0, y1, y2, y3, y4, y5, y6, y7, y8⟩ := HC.out x (HBD.out.trans hx); go_simp; with_reducible exact rfl)
                        clear hK K))
                  have hbxf : xp1.heap[w10.heap.size]? = some (.cells #[.int .i64 0, .int .i64 0, .slice none 0 0] 24 (0, 0)) := (HCH.out.block _ (Array.getElem?_eq_some_iff.1 HBX.out).1).trans HBX.out
                  have z0 : xp1.cell? ⟨w10.heap.size, 0, none⟩ = some (.int .i64 0) := cell_box hbxf rfl rfl
                  have z1 : xp1.cell? ⟨w10.heap.size, 1, none⟩ = some (.int .i64 0) := cell_box hbxf rfl rfl
                  have z2 : xp1.cell? ⟨w10.heap.size, 2, none⟩ = some (.slice none 0 0) := cell_box hbxf rfl rfl
                  have zf : ∀ o, xp1.frozen? ⟨w10.heap.size, o, none⟩ = false := fun o => by simp [World.frozen?, hbxf]
                  have HPB := Lib.hid (put_box hbxf HNPJ.out HPp1.out rfl)
                  clear hbxf
                  first | with_reducible refine rc0 (fun K hK => ?_) | with_reducible refine rc1 (fun K hK => ?_)
                  rw [show tv (T.mk 9 0 [t, T.mk 9 0 [u, v]]) ap1 cp1 = Value.agg #[.int .i64 9, .int .i64 0, .slice ap1 2 cp1] from rfl]
                  go_simp
                  have hML : w.heap.size + 3 ≤ w10.heap.size := HLE.out _ HB10.out
                  have hbs : Below (w.heap.size + 3) xp1 (((xp1.setCell ⟨w10.heap.size, 0, none⟩ (.int .i64 9)).setCell ⟨w10.heap.size, 1, none⟩ (.int .i64 0)).setCell ⟨w10.heap.size, 2, none⟩ (.slice ap1 2 cp1)) := (((Below.refl _ _).setCell (p := ⟨w10.heap.size, 0, none⟩) hML _).setCell (p := ⟨w10.heap.size, 1, none⟩) hML _).setCell (p := ⟨w10.heap.size, 2, none⟩) hML _
                  refine ⟨hbs, hK _ _ ?_⟩
                  clear hK K
                  with_reducible refine rel_nil ?_
                  have hbx : (((xp1.setCell ⟨w10.heap.size, 0, none⟩ (.int .i64 9)).setCell ⟨w10.heap.size, 1, none⟩ (.int .i64 0)).setCell ⟨w10.heap.size, 2, none⟩ (.slice ap1 2 cp1)).heap[w10.heap.size]? = some (.cells #[.int .i64 9, .int .i64 0, .slice ap1 2 cp1] 24 (0, 0)) := HPB.out.1
                  have htx : TyAt (LT (((xp1.setCell ⟨w10.heap.size, 0, none⟩ (.int .i64 9)).setCell ⟨w10.heap.size, 1, none⟩ (.int .i64 0)).setCell ⟨w10.heap.size, 2, none⟩ (.slice ap1 2 cp1)).heap.size) (((xp1.setCell ⟨w10.heap.size, 0, none⟩ (.int .i64 9)).setCell ⟨w10.heap.size, 1, none⟩ (.int .i64 0)).setCell ⟨w10.heap.size, 2, none⟩ (.slice ap1 2 cp1)) (Nt.looseT 1 t u v) ap1 cp1 := HPB.out.2
                  have hbf := HBD.out.trans hbs
                  clear z0 z1 z2 zf hbs hML HPB
                  generalize ((xp1.setCell ⟨w10.heap.size, 0, none⟩ (.int .i64 9)).setCell ⟨w10.heap.size, 1, none⟩ (.int .i64 0)).setCell ⟨w10.heap.size, 2, none⟩ (.slice ap1 2 cp1) = wf at hbx htx hbf ⊢
                  obtain ⟨hlen, L, hL, hL1, hL2⟩ := HSC2.out 1
                  obtain ⟨cap1, wg, hcv, hH, hB⟩ := conv_bytes (Nt.looseB 1 s1 s2 s3) wf
                  have hbg := hbf.trans (hB.mono (HLE.out _ hbf))
                  have hss := scan_any _ cap1 _ wg hH (HGW.out _ hbg)
                  rw [hL] at hss
                  have e32 : (⟨(Nt.looseB 1 s1 s2 s3).toArray⟩ : ByteArray) = ({ data := #[40] } ++ { data := s1.toArray } ++ { data := #[41] }) ++ { data := #[45, 62] } ++ ({ data := #[40] } ++ { data := s2.toArray } ++ { data := #[41] }) ++ { data := #[45, 62] } ++ ({ data := #[40, 40] } ++ { data := s3.toArray } ++ { data := #[41, 41] }) := ba_ext2 (by simp [Nt.looseB, Nt.brX, Nt.brZ])
                  rw [e32] at hcv
                  obtain ⟨n, hn⟩ : ∃ n, (Nt.looseB 1 s1 s2 s3).length = n := ⟨_, rfl⟩
                  rw [hn] at hcv hss
                  have HBG := Lib.hid hbg; have HSS := Lib.hid hss; have HBXF := Lib.hid hbx; have HTXF := Lib.hid htx; have HFG := Lib.hid hB; have HL1 := Lib.hid hL1; have HL2 := Lib.hid hL2
                  clear hbg hss hL hL1 hL2 hH hB e32 hn hlen hbx htx hbf
                  go_wp2_with fail
                  refine HSS.out.mono ?_
                  rintro e wh ⟨v7, rfl, hown, hb7⟩
                  obtain ⟨a7, cap7, rfl⟩ := own_shape' hown
                  have ht := (tks_own hown).2
                  have HBH := Lib.hid (HBG.out.trans (hb7.mono (HLE.out _ HBG.out))); have HFH := Lib.hid (HFG.out.trans (hb7.mono HFG.out.size))
                  have hrd := read_any a7 cap7 L 0 wh ht HL1.out (by unfold I64; omega) (HGW.out _ HBH.out)
                  unfold ReadPost at hrd
                  rw [HL2.out, show tv (Nt.looseT 1 t u v) = fun a cap => Value.agg #[.int .i64 9, .int .i64 0, .slice a 2 cap] from rfl] at hrd
                  obtain ⟨ll, hll⟩ : ∃ ll, L.length = ll := ⟨_, rfl⟩
                  rw [hll] at hrd ⊢
                  have HRD := Lib.hid hrd
                  clear hrd hown ht hb7 hcv hll HL2 HSS
                  go_wp2_with fail
                  refine HRD.out.mono ?_
                  rintro e wi ⟨a8, cap8, rfl, hty8, hb8⟩
                  have hbi := HBH.out.trans (hb8.mono (HLE.out _ HBH.out))
                  have hal : Below wi.heap.size wi (wi.alloc (.cells #[.int .i64 9, .int .i64 0, .slice a8 2 cap8] 24)) := (Below.refl _ _).alloc (Nat.le_refl _) _
                  have hnw := World.alloc_heap_new wi (.cells #[.int .i64 9, .int .i64 0, .slice a8 2 cap8] 24)
                  obtain ⟨wj, hwj⟩ : ∃ wj, wi.alloc (.cells #[.int .i64 9, .int .i64 0, .slice a8 2 cap8] 24) = wj := ⟨_, rfl⟩
                  rw [hwj] at hal hnw
                  have hfj := HFH.out.trans ((hb8.trans (hal.mono hb8.size)).mono HFH.out.size)
                  have hbj := hbi.trans (hal.mono (HLE.out _ hbi))
                  have hsm := ksame_any _ (Nt.looseT 1 t u v) (Nt.looseT 1 t u v) a8 cap8 ap1 cp1 wj (Nat.le_refl _) (ty_later hty8 hal) (ty_later HTXF.out hfj)
                  rw [Tp.same_refl, show tv (Nt.looseT 1 t u v) = fun a cap => Value.agg #[.int .i64 9, .int .i64 0, .slice a 2 cap] from rfl] at hsm
                  have x0 : wj.cell? ⟨wi.heap.size, 0, none⟩ = some (.int .i64 9) := cell_box hnw rfl rfl
                  have x1 : wj.cell? ⟨wi.heap.size, 1, none⟩ = some (.int .i64 0) := cell_box hnw rfl rfl
                  have x2 : wj.cell? ⟨wi.heap.size, 2, none⟩ = some (.slice a8 2 cap8) := cell_box hnw rfl rfl
                  have hlt : w10.heap.size < wf.heap.size := (Array.getElem?_eq_some_iff.1 HBXF.out).1
                  have y0 : wj.cell? ⟨w10.heap.size, 0, none⟩ = some (.int .i64 9) := cell_box HBXF.out (hfj.block _ hlt) rfl
                  have y1 : wj.cell? ⟨w10.heap.size, 1, none⟩ = some (.int .i64 0) := cell_box HBXF.out (hfj.block _ hlt) rfl
                  have y2 : wj.cell? ⟨w10.heap.size, 2, none⟩ = some (.slice ap1 2 cp1) := cell_box HBXF.out (hfj.block _ hlt) rfl
                  have HBJ := Lib.hid hbj; have HSMJ := Lib.hid hsm; have HWJ := Lib.hid hwj
                  clear hbi hal hnw hwj hfj hbj hsm hlt hb8 hty8 HRD
                  go_upto_region 20 with fail
                  rw [HWJ.out]
                  go_wp2_with fail
                  refine HSMJ.out.mono ?_
                  rintro e wa ⟨rfl, hba⟩
                  have HBA := Lib.hid (HBJ.out.trans (hba.mono (HLE.out _ HBJ.out)))
                  clear hba x0 x1 x2 y0 y1 y2
                  go_wp2_with fail
                  refine (HWK.out _ HBA.out).mono ?_
                  rintro e wb ⟨rfl, hbb⟩
                  have HBB := Lib.hid (HBA.out.trans (hbb.mono (HLE.out _ HBA.out)))
                  clear hbb
                  go_wp2_with fail
                  go_ret
                  exact ⟨rfl, HBW.out _ HBB.out⟩
                · go_upto_region 15 with fail
                  refine wp_region_rel (R := Below (w.heap.size + 3)) (fun _ => Below.refl _ _) (fun h1 h2 => h1.trans h2) [(0, false), (0, false), (0, false), (0, false), (0, false), (0, false), (0, false), (0, false), (0, false), (0, false), (0, false), (0, true), (0, true), (0, true), (0, false), (0, true)] (by kernel_rfl) (by kernel_rfl) (by kernel_rfl) (fun _ _ _ d _ h => by cases d <;> exact h) ?_
                  have hbd := HBM.out.drew
                  have hchain : Below wM.heap.size wM wM.drew := (Below.refl _ _).drew
                  have hbxd : wM.drew.heap[w10.heap.size]? = some (.cells #[.int .i64 0, .int .i64 0, .slice none 0 0] 24 (0, 0)) := HBX.out
                  generalize wM.drew = wD at hbd hchain hbxd ⊢
                  have HBD := Lib.hid hbd; have HCH := Lib.hid hchain
                  clear hbd hchain hbxd
                  repeat
                    (first | with_reducible refine rp0 (fun K hK => ?_) | with_reducible refine rp1 (fun K hK => ?_) | with_reducible refine rp2 (fun K hK => ?_) | with_reducible refine rp3 (fun K hK => ?_) | with_reducible refine rp4 (fun K hK => ?_) | with_reducible refine rp5 (fun K hK => ?_)
                     go_simp
                     first
                     | (with_reducible refine hK _ _ ?_; clear hK K)
                     | (with_reducible apply Exists.intro
                        refine ⟨fun x hx => ?_, hK _ _ ?_⟩
                        first
                          | (with_reducible exact rfl)
                          | (with_reducible exact if_neg (by omega))
                          | (obtain ⟨y0, y1, y2, y3, y4, y5, y6, y7, y8⟩ := HC.out x (HBD.out.trans hx); go_simp; done)
                          | (obtain ⟨y0, y1, y2, y3, y4, y5, y6, y7, y8⟩ := HC.out x (HBD.out.trans hx); go_simp; with_reducible exact rfl)
                        clear hK K))
                  first | with_reducible refine rc0 (fun K hK => ?_) | with_reducible refine rc1 (fun K hK => ?_)
                  go_simp
                  have hcl := list_any v c cap2 _ (HVW.out _ HBD.out)
                  rw [HVE.out] at hcl
                  refine hcl.mono ?_
                  clear hcl
                  rintro e xp0 ⟨ap0, cp0, rfl, hty9, hb9⟩
                  refine ⟨hb9.mono (HLE.out _ HBD.out), hK _ _ ?_⟩
                  clear hK K
                  have HPp0 := Lib.hid hty9
                  have HCH := Lib.hid (HCH.out.trans (hb9.mono HCH.out.size))
                  have HBD := Lib.hid (HBD.out.trans (hb9.mono (HLE.out _ HBD.out)))
                  clear hty9 hb9
                  first | with_reducible refine rc0 (fun K hK => ?_) | with_reducible refine rc1 (fun K hK => ?_)
                  go_simp
                  have hcl := two_any 7 (by unfold I64; omega) u b cap' (T.mk 8 0 [v]) ap0 cp0 _ (HUW.out _ HBD.out) HPp0.out
                  rw [HUE.out] at hcl
                  refine hcl.mono ?_
                  clear hcl
                  rintro e xp1 ⟨ap1, cp1, rfl, hty9, hb9⟩
                  refine ⟨hb9.mono (HLE.out _ HBD.out), hK _ _ ?_⟩
                  clear hK K
                  have HPp0 := Lib.hid (ty_later HPp0.out hb9)
                  have HPp1 := Lib.hid hty9
                  have HCH := Lib.hid (HCH.out.trans (hb9.mono HCH.out.size))
                  have HBD := Lib.hid (HBD.out.trans (hb9.mono (HLE.out _ HBD.out)))
                  clear hty9 hb9
                  first | with_reducible refine rc0 (fun K hK => ?_) | with_reducible refine rc1 (fun K hK => ?_)
                  go_simp
                  have hcl := two_any 9 (by unfold I64; omega) t a cap (T.mk 7 0 [u, T.mk 8 0 [v]]) ap1 cp1 _ (HTW.out _ HBD.out) HPp1.out
                  rw [HTE.out] at hcl
                  refine hcl.mono ?_
                  clear hcl
                  rintro e xp2 ⟨ap2, cp2, rfl, hty9, hb9⟩
                  refine ⟨hb9.mono (HLE.out _ HBD.out), hK _ _ ?_⟩
                  clear hK K
                  have HPp0 := Lib.hid (ty_later HPp0.out hb9)
                  have HPp1 := Lib.hid (ty_later HPp1.out hb9)
                  have HPp2 := Lib.hid hty9
                  have HCH := Lib.hid (HCH.out.trans (hb9.mono HCH.out.size))
                  have HBD := Lib.hid (HBD.out.trans (hb9.mono (HLE.out _ HBD.out)))
                  clear hty9 hb9
                  repeat
                    (first | with_reducible refine rp0 (fun K hK => ?_) | with_reducible refine rp1 (fun K hK => ?_) | with_reducible refine rp2 (fun K hK => ?_) | with_reducible refine rp3 (fun K hK => ?_) | with_reducible refine rp4 (fun K hK => ?_) | with_reducible refine rp5 (fun K hK => ?_)
                     go_simp
                     first
                     | (with_reducible refine hK _ _ ?_; clear hK K)
                     | (with_reducible apply Exists.intro
                        refine ⟨fun x hx => ?_, hK _ _ ?_⟩
                        first
                          | (with_reducible exact rfl)
                          | (with_reducible exact if_neg (by omega))
                          | (obtain ⟨y0, y1, y2, y3, y4, y5, y6, y7, y8⟩ := HC.out x (HBD.out.trans hx); go_simp; done)
                          | (obtain ⟨y0, y1, y2, y3, y4, y5, y6, y7, y8⟩ := HC.out x (HBD.out.trans hx); go_simp; with_reducible exact rfl)
                        clear hK K))
                  have hbxf : xp2.heap[w10.heap.size]? = some (.cells #[.int .i64 0, .int .i64 0, .slice none 0 0] 24 (0, 0)) := (HCH.out.block _ (Array.getElem?_eq_some_iff.1 HBX.out).1).trans HBX.out
                  have z0 : xp2.cell? ⟨w10.heap.size, 0, none⟩ = some (.int .i64 0) := cell_box hbxf rfl rfl
                  have z1 : xp2.cell? ⟨w10.heap.size, 1, none⟩ = some (.int .i64 0) := cell_box hbxf rfl rfl
                  have z2 : xp2.cell? ⟨w10.heap.size, 2, none⟩ = some (.slice none 0 0) := cell_box hbxf rfl rfl
                  have zf : ∀ o, xp2.frozen? ⟨w10.heap.size, o, none⟩ = false := fun o => by simp [World.frozen?, hbxf]
                  have HPB := Lib.hid (put_box hbxf HNPJ.out HPp2.out rfl)
                  clear hbxf
                  first | with_reducible refine rc0 (fun K hK => ?_) | with_reducible refine rc1 (fun K hK => ?_)
                  rw [show tv (T.mk 9 0 [t, T.mk 7 0 [u, T.mk 8 0 [v]]]) ap2 cp2 = Value.agg #[.int .i64 9, .int .i64 0, .slice ap2 2 cp2] from rfl]
                  go_simp
                  have hML : w.heap.size + 3 ≤ w10.heap.size := HLE.out _ HB10.out
                  have hbs : Below (w.heap.size + 3) xp2 (((xp2.setCell ⟨w10.heap.size, 0, none⟩ (.int .i64 9)).setCell ⟨w10.heap.size, 1, none⟩ (.int .i64 0)).setCell ⟨w10.heap.size, 2, none⟩ (.slice ap2 2 cp2)) := (((Below.refl _ _).setCell (p := ⟨w10.heap.size, 0, none⟩) hML _).setCell (p := ⟨w10.heap.size, 1, none⟩) hML _).setCell (p := ⟨w10.heap.size, 2, none⟩) hML _
                  refine ⟨hbs, hK _ _ ?_⟩
                  clear hK K
                  with_reducible refine rel_nil ?_
                  have hbx : (((xp2.setCell ⟨w10.heap.size, 0, none⟩ (.int .i64 9)).setCell ⟨w10.heap.size, 1, none⟩ (.int .i64 0)).setCell ⟨w10.heap.size, 2, none⟩ (.slice ap2 2 cp2)).heap[w10.heap.size]? = some (.cells #[.int .i64 9, .int .i64 0, .slice ap2 2 cp2] 24 (0, 0)) := HPB.out.1
                  have htx : TyAt (LT (((xp2.setCell ⟨w10.heap.size, 0, none⟩ (.int .i64 9)).setCell ⟨w10.heap.size, 1, none⟩ (.int .i64 0)).setCell ⟨w10.heap.size, 2, none⟩ (.slice ap2 2 cp2)).heap.size) (((xp2.setCell ⟨w10.heap.size, 0, none⟩ (.int .i64 9)).setCell ⟨w10.heap.size, 1, none⟩ (.int .i64 0)).setCell ⟨w10.heap.size, 2, none⟩ (.slice ap2 2 cp2)) (Nt.looseT 2 t u v) ap2 cp2 := HPB.out.2
                  have hbf := HBD.out.trans hbs
                  clear z0 z1 z2 zf hbs hML HPB
                  generalize ((xp2.setCell ⟨w10.heap.size, 0, none⟩ (.int .i64 9)).setCell ⟨w10.heap.size, 1, none⟩ (.int .i64 0)).setCell ⟨w10.heap.size, 2, none⟩ (.slice ap2 2 cp2) = wf at hbx htx hbf ⊢
                  obtain ⟨hlen, L, hL, hL1, hL2⟩ := HSC2.out 2
                  obtain ⟨cap1, wg, hcv, hH, hB⟩ := conv_bytes (Nt.looseB 2 s1 s2 s3) wf
                  have hbg := hbf.trans (hB.mono (HLE.out _ hbf))
                  have hss := scan_any _ cap1 _ wg hH (HGW.out _ hbg)
                  rw [hL] at hss
                  have e32 : (⟨(Nt.looseB 2 s1 s2 s3).toArray⟩ : ByteArray) = ({ data := #[40] } ++ { data := s1.toArray } ++ { data := #[41] }) ++ { data := #[45, 62] } ++ ({ data := #[40] } ++ { data := s2.toArray } ++ { data := #[41] }) ++ { data := #[42] } ++ ({ data := #[40, 40] } ++ { data := s3.toArray } ++ { data := #[41, 41] }) ++ { data := #[108, 105, 115, 116] } := ba_ext2 (by simp [Nt.looseB, Nt.brX, Nt.brZ, Nt.sWord])
                  rw [e32] at hcv
                  obtain ⟨n, hn⟩ : ∃ n, (Nt.looseB 2 s1 s2 s3).length = n := ⟨_, rfl⟩
                  rw [hn] at hcv hss
                  have HBG := Lib.hid hbg; have HSS := Lib.hid hss; have HBXF := Lib.hid hbx; have HTXF := Lib.hid htx; have HFG := Lib.hid hB; have HL1 := Lib.hid hL1; have HL2 := Lib.hid hL2
                  clear hbg hss hL hL1 hL2 hH hB e32 hn hlen hbx htx hbf
                  go_wp2_with fail
                  refine HSS.out.mono ?_
                  rintro e wh ⟨v7, rfl, hown, hb7⟩
                  obtain ⟨a7, cap7, rfl⟩ := own_shape' hown
                  have ht := (tks_own hown).2
                  have HBH := Lib.hid (HBG.out.trans (hb7.mono (HLE.out _ HBG.out))); have HFH := Lib.hid (HFG.out.trans (hb7.mono HFG.out.size))
                  have hrd := read_any a7 cap7 L 0 wh ht HL1.out (by unfold I64; omega) (HGW.out _ HBH.out)
                  unfold ReadPost at hrd
                  rw [HL2.out, show tv (Nt.looseT 2 t u v) = fun a cap => Value.agg #[.int .i64 9, .int .i64 0, .slice a 2 cap] from rfl] at hrd
                  obtain ⟨ll, hll⟩ : ∃ ll, L.length = ll := ⟨_, rfl⟩
                  rw [hll] at hrd ⊢
                  have HRD := Lib.hid hrd
                  clear hrd hown ht hb7 hcv hll HL2 HSS
                  go_wp2_with fail
                  refine HRD.out.mono ?_
                  rintro e wi ⟨a8, cap8, rfl, hty8, hb8⟩
                  have hbi := HBH.out.trans (hb8.mono (HLE.out _ HBH.out))
                  have hal : Below wi.heap.size wi (wi.alloc (.cells #[.int .i64 9, .int .i64 0, .slice a8 2 cap8] 24)) := (Below.refl _ _).alloc (Nat.le_refl _) _
                  have hnw := World.alloc_heap_new wi (.cells #[.int .i64 9, .int .i64 0, .slice a8 2 cap8] 24)
                  obtain ⟨wj, hwj⟩ : ∃ wj, wi.alloc (.cells #[.int .i64 9, .int .i64 0, .slice a8 2 cap8] 24) = wj := ⟨_, rfl⟩
                  rw [hwj] at hal hnw
                  have hfj := HFH.out.trans ((hb8.trans (hal.mono hb8.size)).mono HFH.out.size)
                  have hbj := hbi.trans (hal.mono (HLE.out _ hbi))
                  have hsm := ksame_any _ (Nt.looseT 2 t u v) (Nt.looseT 2 t u v) a8 cap8 ap2 cp2 wj (Nat.le_refl _) (ty_later hty8 hal) (ty_later HTXF.out hfj)
                  rw [Tp.same_refl, show tv (Nt.looseT 2 t u v) = fun a cap => Value.agg #[.int .i64 9, .int .i64 0, .slice a 2 cap] from rfl] at hsm
                  have x0 : wj.cell? ⟨wi.heap.size, 0, none⟩ = some (.int .i64 9) := cell_box hnw rfl rfl
                  have x1 : wj.cell? ⟨wi.heap.size, 1, none⟩ = some (.int .i64 0) := cell_box hnw rfl rfl
                  have x2 : wj.cell? ⟨wi.heap.size, 2, none⟩ = some (.slice a8 2 cap8) := cell_box hnw rfl rfl
                  have hlt : w10.heap.size < wf.heap.size := (Array.getElem?_eq_some_iff.1 HBXF.out).1
                  have y0 : wj.cell? ⟨w10.heap.size, 0, none⟩ = some (.int .i64 9) := cell_box HBXF.out (hfj.block _ hlt) rfl
                  have y1 : wj.cell? ⟨w10.heap.size, 1, none⟩ = some (.int .i64 0) := cell_box HBXF.out (hfj.block _ hlt) rfl
                  have y2 : wj.cell? ⟨w10.heap.size, 2, none⟩ = some (.slice ap2 2 cp2) := cell_box HBXF.out (hfj.block _ hlt) rfl
                  have HBJ := Lib.hid hbj; have HSMJ := Lib.hid hsm; have HWJ := Lib.hid hwj
                  clear hbi hal hnw hwj hfj hbj hsm hlt hb8 hty8 HRD
                  go_upto_region 20 with fail
                  rw [HWJ.out]
                  go_wp2_with fail
                  refine HSMJ.out.mono ?_
                  rintro e wa ⟨rfl, hba⟩
                  have HBA := Lib.hid (HBJ.out.trans (hba.mono (HLE.out _ HBJ.out)))
                  clear hba x0 x1 x2 y0 y1 y2
                  go_wp2_with fail
                  refine (HWK.out _ HBA.out).mono ?_
                  rintro e wb ⟨rfl, hbb⟩
                  have HBB := Lib.hid (HBA.out.trans (hbb.mono (HLE.out _ HBA.out)))
                  clear hbb
                  go_wp2_with fail
                  go_ret
                  exact ⟨rfl, HBW.out _ HBB.out⟩
                · go_upto_region 17 with fail
                  refine wp_region_rel (R := Below (w.heap.size + 3)) (fun _ => Below.refl _ _) (fun h1 h2 => h1.trans h2) [(0, false), (0, false), (0, false), (0, false), (0, false), (0, false), (0, false), (0, false), (2, false), (4, false), (0, true), (0, true), (0, true), (0, true), (0, true), (0, false), (0, true)] (by kernel_rfl) (by kernel_rfl) (by kernel_rfl) (fun _ _ _ d _ h => by cases d <;> exact h) ?_
                  have hbd := HBM.out.drew
                  have hchain : Below wM.heap.size wM wM.drew := (Below.refl _ _).drew
                  have hbxd : wM.drew.heap[w10.heap.size]? = some (.cells #[.int .i64 0, .int .i64 0, .slice none 0 0] 24 (0, 0)) := HBX.out
                  generalize wM.drew = wD at hbd hchain hbxd ⊢
                  have HBD := Lib.hid hbd; have HCH := Lib.hid hchain
                  clear hbd hchain hbxd
                  repeat
                    (first | with_reducible refine rp0 (fun K hK => ?_) | with_reducible refine rp1 (fun K hK => ?_) | with_reducible refine rp2 (fun K hK => ?_) | with_reducible refine rp3 (fun K hK => ?_) | with_reducible refine rp4 (fun K hK => ?_) | with_reducible refine rp5 (fun K hK => ?_)
                     go_simp
                     first
                     | (with_reducible refine hK _ _ ?_; clear hK K)
                     | (with_reducible apply Exists.intro
                        refine ⟨fun x hx => ?_, hK _ _ ?_⟩
                        first
                          | (with_reducible exact rfl)
                          | (with_reducible exact if_neg (by omega))
                          | (obtain ⟨y0, y1, y2, y3, y4, y5, y6, y7, y8⟩ := HC.out x (HBD.out.trans hx); go_simp; done)
                          | (obtain ⟨y0, y1, y2, y3, y4, y5, y6, y7, y8⟩ := HC.out x (HBD.out.trans hx); go_simp; with_reducible exact rfl)
                        clear hK K))
                  first | with_reducible refine rc0 (fun K hK => ?_) | with_reducible refine rc1 (fun K hK => ?_)
                  go_simp
                  have hcl := list_any t a cap _ (HTW.out _ HBD.out)
                  rw [HTE.out] at hcl
                  refine hcl.mono ?_
                  clear hcl
                  rintro e xp0 ⟨ap0, cp0, rfl, hty9, hb9⟩
                  refine ⟨hb9.mono (HLE.out _ HBD.out), hK _ _ ?_⟩
                  clear hK K
                  have HPp0 := Lib.hid hty9
                  have HCH := Lib.hid (HCH.out.trans (hb9.mono HCH.out.size))
                  have HBD := Lib.hid (HBD.out.trans (hb9.mono (HLE.out _ HBD.out)))
                  clear hty9 hb9
                  first | with_reducible refine rc0 (fun K hK => ?_) | with_reducible refine rc1 (fun K hK => ?_)
                  go_simp
                  have hcl := list_any (T.mk 8 0 [t]) ap0 cp0 _ HPp0.out
                  refine hcl.mono ?_
                  clear hcl
                  rintro e xp1 ⟨ap1, cp1, rfl, hty9, hb9⟩
                  refine ⟨hb9.mono (HLE.out _ HBD.out), hK _ _ ?_⟩
                  clear hK K
                  have HPp0 := Lib.hid (ty_later HPp0.out hb9)
                  have HPp1 := Lib.hid hty9
                  have HCH := Lib.hid (HCH.out.trans (hb9.mono HCH.out.size))
                  have HBD := Lib.hid (HBD.out.trans (hb9.mono (HLE.out _ HBD.out)))
                  clear hty9 hb9
                  first | with_reducible refine rc0 (fun K hK => ?_) | with_reducible refine rc1 (fun K hK => ?_)
                  go_simp
                  have hcl := list_any u b cap' _ (HUW.out _ HBD.out)
                  rw [HUE.out] at hcl
                  refine hcl.mono ?_
                  clear hcl
                  rintro e xp2 ⟨ap2, cp2, rfl, hty9, hb9⟩
                  refine ⟨hb9.mono (HLE.out _ HBD.out), hK _ _ ?_⟩
                  clear hK K
                  have HPp0 := Lib.hid (ty_later HPp0.out hb9)
                  have HPp1 := Lib.hid (ty_later HPp1.out hb9)
                  have HPp2 := Lib.hid hty9
                  have HCH := Lib.hid (HCH.out.trans (hb9.mono HCH.out.size))
                  have HBD := Lib.hid (HBD.out.trans (hb9.mono (HLE.out _ HBD.out)))
                  clear hty9 hb9
                  first | with_reducible refine rc0 (fun K hK => ?_) | with_reducible refine rc1 (fun K hK => ?_)
                  go_simp
                  have hcl := two_any 7 (by unfold I64; omega) (T.mk 8 0 [T.mk 8 0 [t]]) ap1 cp1 (T.mk 8 0 [u]) ap2 cp2 _ HPp1.out HPp2.out
                  refine hcl.mono ?_
                  clear hcl
                  rintro e xp3 ⟨ap3, cp3, rfl, hty9, hb9⟩
                  refine ⟨hb9.mono (HLE.out _ HBD.out), hK _ _ ?_⟩
                  clear hK K
                  have HPp0 := Lib.hid (ty_later HPp0.out hb9)
                  have HPp1 := Lib.hid (ty_later HPp1.out hb9)
                  have HPp2 := Lib.hid (ty_later HPp2.out hb9)
                  have HPp3 := Lib.hid hty9
                  have HCH := Lib.hid (HCH.out.trans (hb9.mono HCH.out.size))
                  have HBD := Lib.hid (HBD.out.trans (hb9.mono (HLE.out _ HBD.out)))
                  clear hty9 hb9
                  first | with_reducible refine rc0 (fun K hK => ?_) | with_reducible refine rc1 (fun K hK => ?_)
                  go_simp
                  have hcl := two_any 9 (by unfold I64; omega) (T.mk 7 0 [T.mk 8 0 [T.mk 8 0 [t]], T.mk 8 0 [u]]) ap3 cp3 v c cap2 _ HPp3.out (HVW.out _ HBD.out)
                  rw [HVE.out] at hcl
                  refine hcl.mono ?_
                  clear hcl
                  rintro e xp4 ⟨ap4, cp4, rfl, hty9, hb9⟩
                  refine ⟨hb9.mono (HLE.out _ HBD.out), hK _ _ ?_⟩
                  clear hK K
                  have HPp0 := Lib.hid (ty_later HPp0.out hb9)
                  have HPp1 := Lib.hid (ty_later HPp1.out hb9)
                  have HPp2 := Lib.hid (ty_later HPp2.out hb9)
                  have HPp3 := Lib.hid (ty_later HPp3.out hb9)
                  have HPp4 := Lib.hid hty9
                  have HCH := Lib.hid (HCH.out.trans (hb9.mono HCH.out.size))
                  have HBD := Lib.hid (HBD.out.trans (hb9.mono (HLE.out _ HBD.out)))
                  clear hty9 hb9
                  repeat
                    (first | with_reducible refine rp0 (fun K hK => ?_) | with_reducible refine rp1 (fun K hK => ?_) | with_reducible refine rp2 (fun K hK => ?_) | with_reducible refine rp3 (fun K hK => ?_) | with_reducible refine rp4 (fun K hK => ?_) | with_reducible refine rp5 (fun K hK => ?_)
                     go_simp
                     first
                     | (with_reducible refine hK _ _ ?_; clear hK K)
                     | (with_reducible apply Exists.intro
                        refine ⟨fun x hx => ?_, hK _ _ ?_⟩
                        first
                          | (with_reducible exact rfl)
                          | (with_reducible exact if_neg (by omega))
                          | (obtain ⟨y0, y1, y2, y3, y4, y5, y6, y7, y8⟩ := HC.out x (HBD.out.trans hx); go_simp; done)
                          | (obtain ⟨y0, y1, y2, y3, y4, y5, y6, y7, y8⟩ := HC.out x (HBD.out.trans hx); go_simp; with_reducible exact rfl)
                        clear hK K))
                  have hbxf : xp4.heap[w10.heap.size]? = some (.cells #[.int .i64 0, .int .i64 0, .slice none 0 0] 24 (0, 0)) := (HCH.out.block _ (Array.getElem?_eq_some_iff.1 HBX.out).1).trans HBX.out
                  have z0 : xp4.cell? ⟨w10.heap.size, 0, none⟩ = some (.int .i64 0) := cell_box hbxf rfl rfl
                  have z1 : xp4.cell? ⟨w10.heap.size, 1, none⟩ = some (.int .i64 0) := cell_box hbxf rfl rfl
                  have z2 : xp4.cell? ⟨w10.heap.size, 2, none⟩ = some (.slice none 0 0) := cell_box hbxf rfl rfl
                  have zf : ∀ o, xp4.frozen? ⟨w10.heap.size, o, none⟩ = false := fun o => by simp [World.frozen?, hbxf]
                  have HPB := Lib.hid (put_box hbxf HNPJ.out HPp4.out rfl)
                  clear hbxf
                  first | with_reducible refine rc0 (fun K hK => ?_) | with_reducible refine rc1 (fun K hK => ?_)
                  rw [show tv (T.mk 9 0 [T.mk 7 0 [T.mk 8 0 [T.mk 8 0 [t]], T.mk 8 0 [u]], v]) ap4 cp4 = Value.agg #[.int .i64 9, .int .i64 0, .slice ap4 2 cp4] from rfl]
                  go_simp
                  have hML : w.heap.size + 3 ≤ w10.heap.size := HLE.out _ HB10.out
                  have hbs : Below (w.heap.size + 3) xp4 (((xp4.setCell ⟨w10.heap.size, 0, none⟩ (.int .i64 9)).setCell ⟨w10.heap.size, 1, none⟩ (.int .i64 0)).setCell ⟨w10.heap.size, 2, none⟩ (.slice ap4 2 cp4)) := (((Below.refl _ _).setCell (p := ⟨w10.heap.size, 0, none⟩) hML _).setCell (p := ⟨w10.heap.size, 1, none⟩) hML _).setCell (p := ⟨w10.heap.size, 2, none⟩) hML _
                  refine ⟨hbs, hK _ _ ?_⟩
                  clear hK K
                  with_reducible refine rel_nil ?_
                  have hbx : (((xp4.setCell ⟨w10.heap.size, 0, none⟩ (.int .i64 9)).setCell ⟨w10.heap.size, 1, none⟩ (.int .i64 0)).setCell ⟨w10.heap.size, 2, none⟩ (.slice ap4 2 cp4)).heap[w10.heap.size]? = some (.cells #[.int .i64 9, .int .i64 0, .slice ap4 2 cp4] 24 (0, 0)) := HPB.out.1
                  have htx : TyAt (LT (((xp4.setCell ⟨w10.heap.size, 0, none⟩ (.int .i64 9)).setCell ⟨w10.heap.size, 1, none⟩ (.int .i64 0)).setCell ⟨w10.heap.size, 2, none⟩ (.slice ap4 2 cp4)).heap.size) (((xp4.setCell ⟨w10.heap.size, 0, none⟩ (.int .i64 9)).setCell ⟨w10.heap.size, 1, none⟩ (.int .i64 0)).setCell ⟨w10.heap.size, 2, none⟩ (.slice ap4 2 cp4)) (Nt.looseT 3 t u v) ap4 cp4 := HPB.out.2
                  have hbf := HBD.out.trans hbs
                  clear z0 z1 z2 zf hbs hML HPB
                  generalize ((xp4.setCell ⟨w10.heap.size, 0, none⟩ (.int .i64 9)).setCell ⟨w10.heap.size, 1, none⟩ (.int .i64 0)).setCell ⟨w10.heap.size, 2, none⟩ (.slice ap4 2 cp4) = wf at hbx htx hbf ⊢
                  obtain ⟨hlen, L, hL, hL1, hL2⟩ := HSC2.out 3
                  obtain ⟨cap1, wg, hcv, hH, hB⟩ := conv_bytes (Nt.looseB 3 s1 s2 s3) wf
                  have hbg := hbf.trans (hB.mono (HLE.out _ hbf))
                  have hss := scan_any _ cap1 _ wg hH (HGW.out _ hbg)
                  rw [hL] at hss
                  have e32 : (⟨(Nt.looseB 3 s1 s2 s3).toArray⟩ : ByteArray) = ({ data := #[40] } ++ { data := s1.toArray } ++ { data := #[41] }) ++ { data := #[32, 108, 105, 115, 116, 32, 108, 105, 115, 116, 42] } ++ ({ data := #[40] } ++ { data := s2.toArray } ++ { data := #[41] }) ++ { data := #[32, 108, 105, 115, 116, 45, 62] } ++ ({ data := #[40, 40] } ++ { data := s3.toArray } ++ { data := #[41, 41] }) := ba_ext2 (by simp [Nt.looseB, Nt.brX, Nt.brZ, Nt.sWord])
                  rw [e32] at hcv
                  obtain ⟨n, hn⟩ : ∃ n, (Nt.looseB 3 s1 s2 s3).length = n := ⟨_, rfl⟩
                  rw [hn] at hcv hss
                  have HBG := Lib.hid hbg; have HSS := Lib.hid hss; have HBXF := Lib.hid hbx; have HTXF := Lib.hid htx; have HFG := Lib.hid hB; have HL1 := Lib.hid hL1; have HL2 := Lib.hid hL2
                  clear hbg hss hL hL1 hL2 hH hB e32 hn hlen hbx htx hbf
                  go_wp2_with fail
                  refine HSS.out.mono ?_
                  rintro e wh ⟨v7, rfl, hown, hb7⟩
                  obtain ⟨a7, cap7, rfl⟩ := own_shape' hown
                  have ht := (tks_own hown).2
                  have HBH := Lib.hid (HBG.out.trans (hb7.mono (HLE.out _ HBG.out))); have HFH := Lib.hid (HFG.out.trans (hb7.mono HFG.out.size))
                  have hrd := read_any a7 cap7 L 0 wh ht HL1.out (by unfold I64; omega) (HGW.out _ HBH.out)
                  unfold ReadPost at hrd
                  rw [HL2.out, show tv (Nt.looseT 3 t u v) = fun a cap => Value.agg #[.int .i64 9, .int .i64 0, .slice a 2 cap] from rfl] at hrd
                  obtain ⟨ll, hll⟩ : ∃ ll, L.length = ll := ⟨_, rfl⟩
                  rw [hll] at hrd ⊢
                  have HRD := Lib.hid hrd
                  clear hrd hown ht hb7 hcv hll HL2 HSS
                  go_wp2_with fail
                  refine HRD.out.mono ?_
                  rintro e wi ⟨a8, cap8, rfl, hty8, hb8⟩
                  have hbi := HBH.out.trans (hb8.mono (HLE.out _ HBH.out))
                  have hal : Below wi.heap.size wi (wi.alloc (.cells #[.int .i64 9, .int .i64 0, .slice a8 2 cap8] 24)) := (Below.refl _ _).alloc (Nat.le_refl _) _
                  have hnw := World.alloc_heap_new wi (.cells #[.int .i64 9, .int .i64 0, .slice a8 2 cap8] 24)
                  obtain ⟨wj, hwj⟩ : ∃ wj, wi.alloc (.cells #[.int .i64 9, .int .i64 0, .slice a8 2 cap8] 24) = wj := ⟨_, rfl⟩
                  rw [hwj] at hal hnw
                  have hfj := HFH.out.trans ((hb8.trans (hal.mono hb8.size)).mono HFH.out.size)
                  have hbj := hbi.trans (hal.mono (HLE.out _ hbi))
                  have hsm := ksame_any _ (Nt.looseT 3 t u v) (Nt.looseT 3 t u v) a8 cap8 ap4 cp4 wj (Nat.le_refl _) (ty_later hty8 hal) (ty_later HTXF.out hfj)
                  rw [Tp.same_refl, show tv (Nt.looseT 3 t u v) = fun a cap => Value.agg #[.int .i64 9, .int .i64 0, .slice a 2 cap] from rfl] at hsm
                  have x0 : wj.cell? ⟨wi.heap.size, 0, none⟩ = some (.int .i64 9) := cell_box hnw rfl rfl
                  have x1 : wj.cell? ⟨wi.heap.size, 1, none⟩ = some (.int .i64 0) := cell_box hnw rfl rfl
                  have x2 : wj.cell? ⟨wi.heap.size, 2, none⟩ = some (.slice a8 2 cap8) := cell_box hnw rfl rfl
                  have hlt : w10.heap.size < wf.heap.size := (Array.getElem?_eq_some_iff.1 HBXF.out).1
                  have y0 : wj.cell? ⟨w10.heap.size, 0, none⟩ = some (.int .i64 9) := cell_box HBXF.out (hfj.block _ hlt) rfl
                  have y1 : wj.cell? ⟨w10.heap.size, 1, none⟩ = some (.int .i64 0) := cell_box HBXF.out (hfj.block _ hlt) rfl
                  have y2 : wj.cell? ⟨w10.heap.size, 2, none⟩ = some (.slice ap4 2 cp4) := cell_box HBXF.out (hfj.block _ hlt) rfl
                  have HBJ := Lib.hid hbj; have HSMJ := Lib.hid hsm; have HWJ := Lib.hid hwj
                  clear hbi hal hnw hwj hfj hbj hsm hlt hb8 hty8 HRD
                  go_upto_region 20 with fail
                  rw [HWJ.out]
                  go_wp2_with fail
                  refine HSMJ.out.mono ?_
                  rintro e wa ⟨rfl, hba⟩
                  have HBA := Lib.hid (HBJ.out.trans (hba.mono (HLE.out _ HBJ.out)))
                  clear hba x0 x1 x2 y0 y1 y2
                  go_wp2_with fail
                  refine (HWK.out _ HBA.out).mono ?_
                  rintro e wb ⟨rfl, hbb⟩
                  have HBB := Lib.hid (HBA.out.trans (hbb.mono (HLE.out _ HBA.out)))
                  clear hbb
                  go_wp2_with fail
                  go_ret
                  exact ⟨rfl, HBW.out _ HBB.out⟩
                · go_upto_region 9 with fail
                  refine wp_region_rel (R := Below (w.heap.size + 3)) (fun _ => Below.refl _ _) (fun h1 h2 => h1.trans h2) [(0, false), (0, false), (0, false), (0, false), (0, false), (0, false), (0, false), (0, false), (0, false), (0, false), (2, false), (0, true), (0, true), (0, true), (0, false), (0, true)] (by kernel_rfl) (by kernel_rfl) (by kernel_rfl) (fun _ _ _ d _ h => by cases d <;> exact h) ?_
                  have hbd := HBM.out.drew
                  have hchain : Below wM.heap.size wM wM.drew := (Below.refl _ _).drew
                  have hbxd : wM.drew.heap[w10.heap.size]? = some (.cells #[.int .i64 0, .int .i64 0, .slice none 0 0] 24 (0, 0)) := HBX.out
                  generalize wM.drew = wD at hbd hchain hbxd ⊢
                  have HBD := Lib.hid hbd; have HCH := Lib.hid hchain
                  clear hbd hchain hbxd
                  repeat
                    (first | with_reducible refine rp0 (fun K hK => ?_) | with_reducible refine rp1 (fun K hK => ?_) | with_reducible refine rp2 (fun K hK => ?_) | with_reducible refine rp3 (fun K hK => ?_) | with_reducible refine rp4 (fun K hK => ?_) | with_reducible refine rp5 (fun K hK => ?_)
                     go_simp
                     first
                     | (with_reducible refine hK _ _ ?_; clear hK K)
                     | (with_reducible apply Exists.intro
                        refine ⟨fun x hx => ?_, hK _ _ ?_⟩
                        first
                          | (with_reducible exact rfl)
                          | (with_reducible exact if_neg (by omega))
                          | (obtain ⟨y0, y1, y2, y3, y4, y5, y6, y7, y8⟩ := HC.out x (HBD.out.trans hx); go_simp; done)
                          | (obtain ⟨y0, y1, y2, y3, y4, y5, y6, y7, y8⟩ := HC.out x (HBD.out.trans hx); go_simp; with_reducible exact rfl)
                        clear hK K))
                  first | with_reducible refine rc0 (fun K hK => ?_) | with_reducible refine rc1 (fun K hK => ?_)
                  go_simp
                  have hcl := two_any 9 (by unfold I64; omega) t a cap u b cap' _ (HTW.out _ HBD.out) (HUW.out _ HBD.out)
                  rw [HTE.out] at hcl
                  rw [HUE.out] at hcl
                  refine hcl.mono ?_
                  clear hcl
                  rintro e xp0 ⟨ap0, cp0, rfl, hty9, hb9⟩
                  refine ⟨hb9.mono (HLE.out _ HBD.out), hK _ _ ?_⟩
                  clear hK K
                  have HPp0 := Lib.hid hty9
                  have HCH := Lib.hid (HCH.out.trans (hb9.mono HCH.out.size))
                  have HBD := Lib.hid (HBD.out.trans (hb9.mono (HLE.out _ HBD.out)))
                  clear hty9 hb9
                  first | with_reducible refine rc0 (fun K hK => ?_) | with_reducible refine rc1 (fun K hK => ?_)
                  go_simp
                  have hcl := list_any (T.mk 9 0 [t, u]) ap0 cp0 _ HPp0.out
                  refine hcl.mono ?_
                  clear hcl
                  rintro e xp1 ⟨ap1, cp1, rfl, hty9, hb9⟩
                  refine ⟨hb9.mono (HLE.out _ HBD.out), hK _ _ ?_⟩
                  clear hK K
                  have HPp0 := Lib.hid (ty_later HPp0.out hb9)
                  have HPp1 := Lib.hid hty9
                  have HCH := Lib.hid (HCH.out.trans (hb9.mono HCH.out.size))
                  have HBD := Lib.hid (HBD.out.trans (hb9.mono (HLE.out _ HBD.out)))
                  clear hty9 hb9
                  first | with_reducible refine rc0 (fun K hK => ?_) | with_reducible refine rc1 (fun K hK => ?_)
                  go_simp
                  have hcl := two_any 9 (by unfold I64; omega) (T.mk 8 0 [T.mk 9 0 [t, u]]) ap1 cp1 v c cap2 _ HPp1.out (HVW.out _ HBD.out)
                  rw [HVE.out] at hcl
                  refine hcl.mono ?_
                  clear hcl
                  rintro e xp2 ⟨ap2, cp2, rfl, hty9, hb9⟩
                  refine ⟨hb9.mono (HLE.out _ HBD.out), hK _ _ ?_⟩
                  clear hK K
                  have HPp0 := Lib.hid (ty_later HPp0.out hb9)
                  have HPp1 := Lib.hid (ty_later HPp1.out hb9)
                  have HPp2 := Lib.hid hty9
                  have HCH := Lib.hid (HCH.out.trans (hb9.mono HCH.out.size))
                  have HBD := Lib.hid (HBD.out.trans (hb9.mono (HLE.out _ HBD.out)))
                  clear hty9 hb9
                  repeat
                    (first | with_reducible refine rp0 (fun K hK => ?_) | with_reducible refine rp1 (fun K hK => ?_) | with_reducible refine rp2 (fun K hK => ?_) | with_reducible refine rp3 (fun K hK => ?_) | with_reducible refine rp4 (fun K hK => ?_) | with_reducible refine rp5 (fun K hK => ?_)
                     go_simp
                     first
                     | (with_reducible refine hK _ _ ?_; clear hK K)
                     | (with_reducible apply Exists.intro
                        refine ⟨fun x hx => ?_, hK _ _ ?_⟩
                        first
                          | (with_reducible exact rfl)
                          | (with_reducible exact if_neg (by omega))
                          | (obtain ⟨y0, y1, y2, y3, y4, y5, y6, y7, y8⟩ := HC.out x (HBD.out.trans hx); go_simp; done)
                          | (obtain ⟨y0, y1, y2, y3, y4, y5, y6, y7, y8⟩ := HC.out x (HBD.out.trans hx); go_simp; with_reducible exact rfl)
                        clear hK K))
                  have hbxf : xp2.heap[w10.heap.size]? = some (.cells #[.int .i64 0, .int .i64 0, .slice none 0 0] 24 (0, 0)) := (HCH.out.block _ (Array.getElem?_eq_some_iff.1 HBX.out).1).trans HBX.out
                  have z0 : xp2.cell? ⟨w10.heap.size, 0, none⟩ = some (.int .i64 0) := cell_box hbxf rfl rfl
                  have z1 : xp2.cell? ⟨w10.heap.size, 1, none⟩ = some (.int .i64 0) := cell_box hbxf rfl rfl
                  have z2 : xp2.cell? ⟨w10.heap.size, 2, none⟩ = some (.slice none 0 0) := cell_box hbxf rfl rfl
                  have zf : ∀ o, xp2.frozen? ⟨w10.heap.size, o, none⟩ = false := fun o => by simp [World.frozen?, hbxf]
                  have HPB := Lib.hid (put_box hbxf HNPJ.out HPp2.out rfl)
                  clear hbxf
                  first | with_reducible refine rc0 (fun K hK => ?_) | with_reducible refine rc1 (fun K hK => ?_)
                  rw [show tv (T.mk 9 0 [T.mk 8 0 [T.mk 9 0 [t, u]], v]) ap2 cp2 = Value.agg #[.int .i64 9, .int .i64 0, .slice ap2 2 cp2] from rfl]
                  go_simp
                  have hML : w.heap.size + 3 ≤ w10.heap.size := HLE.out _ HB10.out
                  have hbs : Below (w.heap.size + 3) xp2 (((xp2.setCell ⟨w10.heap.size, 0, none⟩ (.int .i64 9)).setCell ⟨w10.heap.size, 1, none⟩ (.int .i64 0)).setCell ⟨w10.heap.size, 2, none⟩ (.slice ap2 2 cp2)) := (((Below.refl _ _).setCell (p := ⟨w10.heap.size, 0, none⟩) hML _).setCell (p := ⟨w10.heap.size, 1, none⟩) hML _).setCell (p := ⟨w10.heap.size, 2, none⟩) hML _
                  refine ⟨hbs, hK _ _ ?_⟩
                  clear hK K
                  with_reducible refine rel_nil ?_
                  have hbx : (((xp2.setCell ⟨w10.heap.size, 0, none⟩ (.int .i64 9)).setCell ⟨w10.heap.size, 1, none⟩ (.int .i64 0)).setCell ⟨w10.heap.size, 2, none⟩ (.slice ap2 2 cp2)).heap[w10.heap.size]? = some (.cells #[.int .i64 9, .int .i64 0, .slice ap2 2 cp2] 24 (0, 0)) := HPB.out.1
                  have htx : TyAt (LT (((xp2.setCell ⟨w10.heap.size, 0, none⟩ (.int .i64 9)).setCell ⟨w10.heap.size, 1, none⟩ (.int .i64 0)).setCell ⟨w10.heap.size, 2, none⟩ (.slice ap2 2 cp2)).heap.size) (((xp2.setCell ⟨w10.heap.size, 0, none⟩ (.int .i64 9)).setCell ⟨w10.heap.size, 1, none⟩ (.int .i64 0)).setCell ⟨w10.heap.size, 2, none⟩ (.slice ap2 2 cp2)) (Nt.looseT 4 t u v) ap2 cp2 := HPB.out.2
                  have hbf := HBD.out.trans hbs
                  clear z0 z1 z2 zf hbs hML HPB
                  generalize ((xp2.setCell ⟨w10.heap.size, 0, none⟩ (.int .i64 9)).setCell ⟨w10.heap.size, 1, none⟩ (.int .i64 0)).setCell ⟨w10.heap.size, 2, none⟩ (.slice ap2 2 cp2) = wf at hbx htx hbf ⊢
                  obtain ⟨hlen, L, hL, hL1, hL2⟩ := HSC2.out 4
                  obtain ⟨cap1, wg, hcv, hH, hB⟩ := conv_bytes (Nt.looseB 4 s1 s2 s3) wf
                  have hbg := hbf.trans (hB.mono (HLE.out _ hbf))
                  have hss := scan_any _ cap1 _ wg hH (HGW.out _ hbg)
                  rw [hL] at hss
                  have e32 : (⟨(Nt.looseB 4 s1 s2 s3).toArray⟩ : ByteArray) = { data := #[40, 40] } ++ ({ data := #[40] } ++ { data := s1.toArray } ++ { data := #[41] }) ++ { data := #[45, 62] } ++ ({ data := #[40] } ++ { data := s2.toArray } ++ { data := #[41] }) ++ { data := #[41, 41, 108, 105, 115, 116, 45, 62] } ++ ({ data := #[40, 40] } ++ { data := s3.toArray } ++ { data := #[41, 41] }) := ba_ext2 (by simp [Nt.looseB, Nt.brX, Nt.brZ, Nt.sWord])
                  rw [e32] at hcv
                  obtain ⟨n, hn⟩ : ∃ n, (Nt.looseB 4 s1 s2 s3).length = n := ⟨_, rfl⟩
                  rw [hn] at hcv hss
                  have HBG := Lib.hid hbg; have HSS := Lib.hid hss; have HBXF := Lib.hid hbx; have HTXF := Lib.hid htx; have HFG := Lib.hid hB; have HL1 := Lib.hid hL1; have HL2 := Lib.hid hL2
                  clear hbg hss hL hL1 hL2 hH hB e32 hn hlen hbx htx hbf
                  go_wp2_with fail
                  refine HSS.out.mono ?_
                  rintro e wh ⟨v7, rfl, hown, hb7⟩
                  obtain ⟨a7, cap7, rfl⟩ := own_shape' hown
                  have ht := (tks_own hown).2
                  have HBH := Lib.hid (HBG.out.trans (hb7.mono (HLE.out _ HBG.out))); have HFH := Lib.hid (HFG.out.trans (hb7.mono HFG.out.size))
                  have hrd := read_any a7 cap7 L 0 wh ht HL1.out (by unfold I64; omega) (HGW.out _ HBH.out)
                  unfold ReadPost at hrd
                  rw [HL2.out, show tv (Nt.looseT 4 t u v) = fun a cap => Value.agg #[.int .i64 9, .int .i64 0, .slice a 2 cap] from rfl] at hrd
                  obtain ⟨ll, hll⟩ : ∃ ll, L.length = ll := ⟨_, rfl⟩
                  rw [hll] at hrd ⊢
                  have HRD := Lib.hid hrd
                  clear hrd hown ht hb7 hcv hll HL2 HSS
                  go_wp2_with fail
                  refine HRD.out.mono ?_
                  rintro e wi ⟨a8, cap8, rfl, hty8, hb8⟩
                  have hbi := HBH.out.trans (hb8.mono (HLE.out _ HBH.out))
                  have hal : Below wi.heap.size wi (wi.alloc (.cells #[.int .i64 9, .int .i64 0, .slice a8 2 cap8] 24)) := (Below.refl _ _).alloc (Nat.le_refl _) _
                  have hnw := World.alloc_heap_new wi (.cells #[.int .i64 9, .int .i64 0, .slice a8 2 cap8] 24)
                  obtain ⟨wj, hwj⟩ : ∃ wj, wi.alloc (.cells #[.int .i64 9, .int .i64 0, .slice a8 2 cap8] 24) = wj := ⟨_, rfl⟩
                  rw [hwj] at hal hnw
                  have hfj := HFH.out.trans ((hb8.trans (hal.mono hb8.size)).mono HFH.out.size)
                  have hbj := hbi.trans (hal.mono (HLE.out _ hbi))
                  have hsm := ksame_any _ (Nt.looseT 4 t u v) (Nt.looseT 4 t u v) a8 cap8 ap2 cp2 wj (Nat.le_refl _) (ty_later hty8 hal) (ty_later HTXF.out hfj)
                  rw [Tp.same_refl, show tv (Nt.looseT 4 t u v) = fun a cap => Value.agg #[.int .i64 9, .int .i64 0, .slice a 2 cap] from rfl] at hsm
                  have x0 : wj.cell? ⟨wi.heap.size, 0, none⟩ = some (.int .i64 9) := cell_box hnw rfl rfl
                  have x1 : wj.cell? ⟨wi.heap.size, 1, none⟩ = some (.int .i64 0) := cell_box hnw rfl rfl
                  have x2 : wj.cell? ⟨wi.heap.size, 2, none⟩ = some (.slice a8 2 cap8) := cell_box hnw rfl rfl
                  have hlt : w10.heap.size < wf.heap.size := (Array.getElem?_eq_some_iff.1 HBXF.out).1
                  have y0 : wj.cell? ⟨w10.heap.size, 0, none⟩ = some (.int .i64 9) := cell_box HBXF.out (hfj.block _ hlt) rfl
                  have y1 : wj.cell? ⟨w10.heap.size, 1, none⟩ = some (.int .i64 0) := cell_box HBXF.out (hfj.block _ hlt) rfl
                  have y2 : wj.cell? ⟨w10.heap.size, 2, none⟩ = some (.slice ap2 2 cp2) := cell_box HBXF.out (hfj.block _ hlt) rfl
                  have HBJ := Lib.hid hbj; have HSMJ := Lib.hid hsm; have HWJ := Lib.hid hwj
                  clear hbi hal hnw hwj hfj hbj hsm hlt hb8 hty8 HRD
                  go_upto_region 20 with fail
                  rw [HWJ.out]
                  go_wp2_with fail
                  refine HSMJ.out.mono ?_
                  rintro e wa ⟨rfl, hba⟩
                  have HBA := Lib.hid (HBJ.out.trans (hba.mono (HLE.out _ HBJ.out)))
                  clear hba x0 x1 x2 y0 y1 y2
                  go_wp2_with fail
                  refine (HWK.out _ HBA.out).mono ?_
                  rintro e wb ⟨rfl, hbb⟩
                  have HBB := Lib.hid (HBA.out.trans (hbb.mono (HLE.out _ HBA.out)))
                  clear hbb
                  go_wp2_with fail
                  go_ret
                  exact ⟨rfl, HBW.out _ HBB.out⟩
end Go.Proofs.YtideicoifinnoaaDoor
