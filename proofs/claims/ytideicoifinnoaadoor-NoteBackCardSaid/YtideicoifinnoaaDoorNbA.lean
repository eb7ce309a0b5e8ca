/- The law NoteBack: its walk. -/
import Derived.Test.YtideicoifinnoaaDoorNxB
import Derived.Deep.DeepCutAuto
namespace Go.Proofs.YtideicoifinnoaaDoor
open Go Go.RowKit
open Tp (T)

theorem rem_seven (n : Int) : ∃ j : Nat, j < 7 ∧ (IntKind.u64.wrap n).tmod 7 = (j : Int) ∧ wrap64 (j : Int) = (j : Int) := by
  have h : 0 ≤ IntKind.u64.wrap n := by
    simp [IntKind.wrap, IntKind.bits, IntKind.signed]
    omega
  have h1 : 0 ≤ (IntKind.u64.wrap n).tmod 7 ∧ (IntKind.u64.wrap n).tmod 7 < 7 := by
    rw [Int.tmod_eq_emod_of_nonneg h]; omega
  generalize (IntKind.u64.wrap n).tmod 7 = r at h1
  refine ⟨r.toNat, by omega, by omega, ?_⟩
  unfold wrap64; omega
theorem textOf_yes {t : T} (h : Tp.right t = true) : textOf t = Nt.text t := by unfold textOf; rw [if_pos h]
theorem textOf_no {t : T} (h : Tp.right t = false) : textOf t = [] := by unfold textOf; rw [if_neg (by rw [h]; simp)]
set_option maxRecDepth 100000 in
set_option maxHeartbeats 4000000 in
theorem walk_noteBack (t : T) (a : Option Addr) (cap : Nat) (x : Int) (w : World) (hg : Good w) (hx : I64 x) (hty : TyAt (LT w.heap.size) w t a cap) :
    Calls Tryd.prog 3 #[tv t a cap, .int .i64 x] w fun e w' => e = .returned (.bool true) ∧ Below w.heap.size w w' := by
  obtain ⟨k0, hk0⟩ : ∃ k0, t.kind = k0 := ⟨_, rfl⟩
  obtain ⟨n0, hn0⟩ : ∃ n0, t.num = n0 := ⟨_, rfl⟩
  obtain ⟨m0, hm0⟩ : ∃ m0, t.kids.length = m0 := ⟨_, rfl⟩
  obtain ⟨hv, hhv⟩ : ∃ hv, decide (600 < Tp.sizes [t]) = hv := ⟨_, rfl⟩
  obtain ⟨W0, hW0⟩ : ∃ W, w.alloc (.cells #[.int .i64 k0, .int .i64 n0, .slice a m0 cap] 24) = W := ⟨_, rfl⟩
  obtain ⟨hcell, htw, hle, hbw⟩ := box_facts hty (k := k0) (n := n0) (m := m0)
  rw [hW0] at hcell htw hle hbw
  have hgw := fun w1 (hb : Below (w.heap.size + 1) W0 w1) => hg.below (hbw w1 hb)
  have hhe := fun w1 (hb : Below (w.heap.size + 1) W0 w1) => heavy_any [t] (some ⟨w1.heap.size, 0, none⟩) 1 _ (by simp) (row_one (htw w1 hb) hk0 hn0 hm0)
  have hsz : hv = false → Tp.size t ≤ 600 := fun h => by
    rw [h, sizes_one] at hhv
    simp only [decide_eq_false_iff_not] at hhv
    omega
  have hra := fun w1 (hb : Below (w.heap.size + 1) W0 w1) => rright_any _ t a cap w1 (Nat.le_refl _) (htw w1 hb)
  have hca := fun w1 (hb : Below (w.heap.size + 1) W0 w1) => rwithout_any 6 _ t a cap w1 (Nat.le_refl _) (htw w1 hb)
  have hta := fun w1 (hb : Below (w.heap.size + 1) W0 w1) (h : Tp.size t ≤ 600) => text_any t a cap w1 (sz_le h) (htw w1 hb) (hgw w1 hb)
  have hsm := fun w1 (hb : Below (w.heap.size + 1) W0 w1) a' cap' (hx : TyAt (LT w1.heap.size) w1 t a' cap') => ksame_any _ t t a' cap' a cap w1 (Nat.le_refl _) hx (htw w1 hb)
  have hwk := fun w1 (hb : Below (w.heap.size + 1) W0 w1) => wakes_any w1 (hgw w1 hb)
  obtain ⟨r1, hr1⟩ : ∃ x, Tp.right t = x := ⟨_, rfl⟩
  obtain ⟨c1, hc1⟩ : ∃ x, Tp.without 6 t = x := ⟨_, rfl⟩
  obtain ⟨s1, hs1⟩ : ∃ x, textOf t = x := ⟨_, rfl⟩
  obtain ⟨j, hj, hj1, hj2⟩ := rem_seven x
  obtain ⟨e0, he0⟩ : ∃ e, (Nt.moreB j == []) = e := ⟨_, rfl⟩
  have hno : r1 = false → s1 = [] := fun h => by rw [← hs1]; exact textOf_no (hr1.trans h)
  have hyes : r1 = true → 0 < s1.length := fun h => by rw [← hs1, textOf_yes (hr1.trans h)]; exact List.length_pos_iff.2 (Nt.text_ne t (hr1.trans h))
  have hsl : hv = false → r1 = true → c1 = true → s1.length ≤ 5000 := fun h1 h2 h3 => by
    have := Nt.text_small _ t (Nat.le_refl _) (hr1.trans h2) (hc1.trans h3)
    rw [← hs1, textOf_yes (hr1.trans h2)]
    have := hsz h1
    omega
  have hsc : hv = false → r1 = true → c1 = true → ∃ L, scanAll (s1 ++ Nt.moreB j) = .good L ∧ L.length ≤ 100000 ∧ readOut L 0 = (t, (Nt.tk t).length, 0) ∧ L.length = (Nt.tk t).length + (if e0 = true then 0 else 1) := fun h1 h2 h3 => by
    obtain ⟨f1, f2, f3, f4⟩ := Nt.more_facts j hj
    obtain ⟨L, hL, hk⟩ := back_scan (hr1.trans h2) (hc1.trans h3) (hsz h1) (by omega) f1 (Nt.more_scans j hj)
    rw [← hs1, textOf_yes (hr1.trans h2)]
    refine ⟨L, hL, scanAll_len hL, ?_, ?_⟩
    · have := back_read (A := []) (hr1.trans h2) (hc1.trans h3) hk f2
      simpa using this
    · have := congrArg List.length hk
      rw [List.length_map, List.length_append, f4, he0] at this
      exact this
  rw [hr1] at hra
  rw [hc1] at hca
  rw [hs1, hr1] at hta
  simp only [Tp.same_refl] at hsm
  unfold tv at hra hca hta hsm ⊢
  rw [hhv] at hhe
  simp only [hk0, hn0, hm0] at hra hca hta hsm
  rw [hk0, hn0, hm0]
  have b0 := Below.refl (w.heap.size + 1) W0
  have HC := Lib.hid hcell; have HLE := Lib.hid hle; have HBW := Lib.hid hbw; have HHE := Lib.hid hhe; have HRA := Lib.hid hra; have HCA := Lib.hid hca; have HTA := Lib.hid hta; have HSM := Lib.hid hsm; have HWK := Lib.hid hwk; have HSZ := Lib.hid hsz; have HB0 := Lib.hid b0; have HW0 := Lib.hid hW0
  have HSL := Lib.hid hsl; have HNO := Lib.hid hno; have HYES := Lib.hid hyes; have HSC := Lib.hid hsc; have HGW := Lib.hid hgw; have HJ := Lib.hid hj; have HJ1 := Lib.hid hj1; have HJ2 := Lib.hid hj2; have HE0 := Lib.hid he0; have HX := Lib.hid hx
  have HK0 := Lib.hid hk0; have HN0 := Lib.hid hn0; have HM0 := Lib.hid hm0
  clear hcell hle hbw hhe hra hca hta hsm hwk hsz b0 hW0 htw hgw hg hty hk0 hn0 hm0 hhv hr1 hc1 hs1 hno hyes hsc hsl hj hj1 hj2 he0 hx
  go_enter Tryd.func3, Tryd.ntmps3
  go_upto_region 1 with fail
  rw [HW0.out]
  obtain ⟨d0, d1, d2⟩ := HC.out W0 HB0.out
  go_wp2_with fail
  refine (HHE.out _ HB0.out).mono ?_
  rintro e w1 ⟨rfl, hb1⟩
  have HB1 := Lib.hid ((HB0.out.alloc (HLE.out _ HB0.out) _).trans (hb1.mono (by rw [World.size_alloc]; have := HLE.out _ HB0.out; omega)))
  clear hb1 d0 d1 d2
  cases hv with
  | true =>
    go_wp2_with fail
    go_ret
    exact ⟨rfl, HBW.out _ HB1.out⟩
  | false =>
    have hz := HSZ.out rfl
    have HSC2 := Lib.hid (HSC.out rfl)
    clear HSC
    obtain ⟨d0, d1, d2⟩ := HC.out _ HB1.out
    go_wp2_with fail
    refine (HTA.out _ HB1.out hz).mono ?_
    rintro e w2 ⟨rfl, hb2⟩
    have HB2 := Lib.hid (HB1.out.trans (hb2.mono (HLE.out _ HB1.out)))
    clear hb2 d0 d1 d2
    obtain ⟨d0, d1, d2⟩ := HC.out _ HB2.out
    go_wp2_with fail
    refine (HRA.out _ HB2.out).mono ?_
    rintro e w3 ⟨rfl, hb3⟩
    have HB3 := Lib.hid (HB2.out.trans (hb3.mono (HLE.out _ HB2.out)))
    clear hb3 d0 d1 d2
    cases r1 with
    | false =>
      obtain rfl := HNO.out rfl
      rw [show errOf false = 1 from rfl]
      go_wp2_with fail
      refine (HWK.out _ HB3.out).mono ?_
      rintro e w4 ⟨rfl, hb4⟩
      have HB4 := Lib.hid (HB3.out.trans (hb4.mono (HLE.out _ HB3.out)))
      clear hb4
      go_wp2_with fail
      go_ret
      exact ⟨rfl, HBW.out _ HB4.out⟩
    | true =>
      rw [show errOf true = 0 from rfl]
      have hyes := HYES.out rfl
      obtain ⟨d0, d1, d2⟩ := HC.out _ HB3.out
      go_wp2_with fail
      refine (HCA.out _ HB3.out).mono ?_
      rintro e w4 ⟨rfl, hb4⟩
      have HB4 := Lib.hid (HB3.out.trans (hb4.mono (HLE.out _ HB3.out)))
      clear hb4 d0 d1 d2
      cases c1 with
      | false =>
        have hp : decide ((s1.length : Int) > 0) = true := by rw [decide_eq_true_eq]; omega
        go_wp2_with fail
        refine (HWK.out _ HB4.out).mono ?_
        rintro e w5 ⟨rfl, hb5⟩
        have HB5 := Lib.hid (HB4.out.trans (hb5.mono (HLE.out _ HB4.out)))
        clear hb5
        go_wp2_with fail
        go_ret
        exact ⟨rfl, HBW.out _ HB5.out⟩
      | true =>
        have HSC3 := Lib.hid (HSC2.out (by trivial) (by trivial))
        clear HSC2 hyes
        go_upto_region 8 with fail
        go_cut [7] (fun v7 wx => v7 = .string ⟨(Nt.moreB j).toArray⟩ ∧ Below (w.heap.size + 1) W0 wx)
        case first =>
          have hb5 := HB4.out.alloc (HLE.out _ HB4.out) (.cells #[.string ⟨#[]⟩, .string ⟨#[32, 41]⟩, .string ⟨#[32, 61]⟩, .string ⟨#[32, 44]⟩, .string ⟨#[32, 120]⟩, .string ⟨#[32, 53]⟩, .string ⟨#[32, 105, 110]⟩] 9)
          have hj1 := HJ1.out
          have h7 : j = 0 ∨ j = 1 ∨ j = 2 ∨ j = 3 ∨ j = 4 ∨ j = 5 ∨ j = 6 := by have := HJ.out; omega
          have HB5 := Lib.hid hb5
          clear hb5 HSC3
          rcases h7 with rfl | rfl | rfl | rfl | rfl | rfl | rfl <;>
          · go_wp2_with fail
            go_meet
            exact ⟨rfl, HB5.out⟩
        case rest =>
          obtain ⟨rfl, hb5⟩ := hcut
          obtain ⟨L, hL, hL1, hL2, hL3⟩ := HSC3.out
          obtain ⟨m, hm⟩ : ∃ m, Nt.moreB j = m := ⟨_, rfl⟩
          have he := HE0.out
          have hsl := HSL.out (by trivial) (by trivial) (by trivial)
          have hml := (Nt.more_facts j HJ.out).2.2.1
          rw [hm] at hL he hml ⊢
          obtain ⟨cap1, w5, hcv, hH, hB⟩ := conv_bytes (s1 ++ m) wc
          have hss := fun (hgg : Good w5) => scan_any _ cap1 _ w5 hH hgg
          rw [hL] at hss
          have e32 : (⟨(s1 ++ m).toArray⟩ : ByteArray) = ({ data := s1.toArray } : ByteArray) ++ { data := m.toArray } := ba_ext2 (by simp)
          rw [e32] at hcv
          obtain ⟨n, hn⟩ : ∃ n, (s1 ++ m).length = n := ⟨_, rfl⟩
          rw [hn] at hcv hss
          have hb6 := hb5.trans (hB.mono (HLE.out _ hb5))
          have HB6 := Lib.hid hb6; have HSS := Lib.hid (hss (HGW.out _ hb6)); have HL1 := Lib.hid hL1; have HL2 := Lib.hid hL2; have HL3 := Lib.hid hL3
          clear hb5 hb6 hss hL hL1 hL2 hL3 hH hB e32 hn hm HSC3
          go_wp2_with fail
          refine HSS.out.mono ?_
          rintro e w6 ⟨v, rfl, hown, hb7⟩
          obtain ⟨a6, cap6, rfl⟩ := own_shape' hown
          have ht := (tks_own hown).2
          have HB7 := Lib.hid (HB6.out.trans (hb7.mono (HLE.out _ HB6.out)))
          have hrd := read_any a6 cap6 L 0 w6 ht HL1.out (by unfold I64; omega) (HGW.out _ HB7.out)
          unfold ReadPost at hrd
          rw [HL2.out] at hrd
          have hl3 := HL3.out
          obtain ⟨tl, htl⟩ : ∃ tl, (Nt.tk t).length = tl := ⟨_, rfl⟩
          obtain ⟨ll, hll⟩ : ∃ ll, L.length = ll := ⟨_, rfl⟩
          have hlb := HL1.out
          rw [htl] at hrd hl3
          rw [hll] at hrd hl3 hlb ⊢
          unfold tv at hrd
          simp only [HK0.out, HN0.out, HM0.out] at hrd
          have HRD := Lib.hid hrd; have HL4 := Lib.hid hl3
          clear hb7 hown ht hrd hl3
          cases e0 with
          | true =>
            have hl : ll = tl := by have := HL4.out; simpa using this
            subst hl
            go_wp2_with fail
            refine HRD.out.mono ?_
            rintro e w8 ⟨a8, cap8, rfl, hty8, hb8⟩
            have hb8' := HB7.out.trans (hb8.mono (HLE.out _ HB7.out))
            have hal : Below w8.heap.size w8 (w8.alloc (.cells #[.int .i64 k0, .int .i64 n0, .slice a8 m0 cap8] 24)) := (Below.refl _ _).alloc (Nat.le_refl _) _
            have hnw := World.alloc_heap_new w8 (.cells #[.int .i64 k0, .int .i64 n0, .slice a8 m0 cap8] 24)
            have hb9 := hb8'.trans (hal.mono (HLE.out _ hb8'))
            have hty9 := hty8.below hal (fun _ h => h) (fun b h => Nat.lt_of_lt_of_le h hal.size)
            have hsm := HSM.out _ hb9 a8 cap8 hty9
            obtain ⟨w9, hw9⟩ : ∃ w9, w8.alloc (.cells #[.int .i64 k0, .int .i64 n0, .slice a8 m0 cap8] 24) = w9 := ⟨_, rfl⟩
            rw [hw9] at hb9 hsm hnw
            have x0 : w9.cell? ⟨w8.heap.size, 0, none⟩ = some (.int .i64 k0) := cell_box hnw rfl rfl
            have x1 : w9.cell? ⟨w8.heap.size, 1, none⟩ = some (.int .i64 n0) := cell_box hnw rfl rfl
            have x2 : w9.cell? ⟨w8.heap.size, 2, none⟩ = some (.slice a8 m0 cap8) := cell_box hnw rfl rfl
            obtain ⟨d0, d1, d2⟩ := HC.out _ hb9
            have HB9 := Lib.hid hb9; have HSM9 := Lib.hid hsm; have HW9 := Lib.hid hw9
            clear hb8 hb8' hal hnw hb9 hty9 hty8 hsm hw9
            go_upto_region 16 with fail
            rw [HW9.out]
            go_wp2_with fail
            refine HSM9.out.mono ?_
            rintro e wa ⟨rfl, hba⟩
            have HBA := Lib.hid (HB9.out.trans (hba.mono (HLE.out _ HB9.out)))
            clear hba x0 x1 x2 d0 d1 d2
            go_wp2_with fail
            refine (HWK.out _ HBA.out).mono ?_
            rintro e wb ⟨rfl, hbb⟩
            have HBB := Lib.hid (HBA.out.trans (hbb.mono (HLE.out _ HBA.out)))
            clear hbb
            go_wp2_with fail
            go_ret
            exact ⟨rfl, HBW.out _ HBB.out⟩
          | false =>
            have hl : ll = tl + 1 := by have := HL4.out; simpa using this
            subst hl
            go_wp2_with fail
            refine HRD.out.mono ?_
            rintro e w8 ⟨a8, cap8, rfl, hty8, hb8⟩
            have hb8' := HB7.out.trans (hb8.mono (HLE.out _ HB7.out))
            have hal : Below w8.heap.size w8 (w8.alloc (.cells #[.int .i64 k0, .int .i64 n0, .slice a8 m0 cap8] 24)) := (Below.refl _ _).alloc (Nat.le_refl _) _
            have hnw := World.alloc_heap_new w8 (.cells #[.int .i64 k0, .int .i64 n0, .slice a8 m0 cap8] 24)
            have hb9 := hb8'.trans (hal.mono (HLE.out _ hb8'))
            have hty9 := hty8.below hal (fun _ h => h) (fun b h => Nat.lt_of_lt_of_le h hal.size)
            have hsm := HSM.out _ hb9 a8 cap8 hty9
            obtain ⟨w9, hw9⟩ : ∃ w9, w8.alloc (.cells #[.int .i64 k0, .int .i64 n0, .slice a8 m0 cap8] 24) = w9 := ⟨_, rfl⟩
            rw [hw9] at hb9 hsm hnw
            have x0 : w9.cell? ⟨w8.heap.size, 0, none⟩ = some (.int .i64 k0) := cell_box hnw rfl rfl
            have x1 : w9.cell? ⟨w8.heap.size, 1, none⟩ = some (.int .i64 n0) := cell_box hnw rfl rfl
            have x2 : w9.cell? ⟨w8.heap.size, 2, none⟩ = some (.slice a8 m0 cap8) := cell_box hnw rfl rfl
            obtain ⟨d0, d1, d2⟩ := HC.out _ hb9
            have HB9 := Lib.hid hb9; have HSM9 := Lib.hid hsm; have HW9 := Lib.hid hw9
            clear hb8 hb8' hal hnw hb9 hty9 hty8 hsm hw9
            go_upto_region 16 with fail
            rw [HW9.out]
            go_wp2_with fail
            refine HSM9.out.mono ?_
            rintro e wa ⟨rfl, hba⟩
            have HBA := Lib.hid (HB9.out.trans (hba.mono (HLE.out _ HB9.out)))
            clear hba x0 x1 x2 d0 d1 d2
            go_wp2_with fail
            refine (HWK.out _ HBA.out).mono ?_
            rintro e wb ⟨rfl, hbb⟩
            have HBB := Lib.hid (HBA.out.trans (hbb.mono (HLE.out _ HBA.out)))
            clear hbb
            go_wp2_with fail
            go_ret
            exact ⟨rfl, HBW.out _ HBB.out⟩
end Go.Proofs.YtideicoifinnoaaDoor
