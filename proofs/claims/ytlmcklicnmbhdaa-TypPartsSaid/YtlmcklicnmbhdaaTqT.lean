/- The law TypParts: its walk. -/
import Derived.Test.YtlmcklicnmbhdaaTqS
namespace Go.Proofs.Ytlmcklicnmbhdaa
open Go Go.RowKit
open Tp (T)

theorem wraps9 {s1 s2 g1 g2 : Nat} (h : s1 ≤ 600 ∧ s2 ≤ 600 ∧ g1 ≤ 600 ∧ g2 ≤ 600) : IntKind.i64.wrap ((s1 : Int) + s2) = (s1 : Int) + s2 ∧ IntKind.i64.wrap ((s1 : Int) + s2 + 1) = ((s1 + s2 + 1 : Nat) : Int) ∧ IntKind.i64.wrap ((s1 : Int) + 1) = ((s1 + 1 : Nat) : Int) ∧ IntKind.i64.wrap ((g1 : Int) + 1) = ((g1 + 1 : Nat) : Int) ∧ IntKind.i64.wrap ((if g1 < g2 then (g2 : Int) else (g1 : Int)) + 1) = ((max g1 g2 : Nat) : Int) + 1 := by
  simp [IntKind.wrap, IntKind.bits, IntKind.signed]
  split <;> omega
theorem rowPost_ret {L : List Int} {w : World} : ∀ e w', RowPost L w e w' → ∃ v, e = .returned v := fun _ _ ⟨v, h, _⟩ => ⟨v, h⟩
set_option maxRecDepth 100000 in
set_option maxHeartbeats 4000000 in
theorem parts_any (t : T) (a : Option Addr) (cap : Nat) (u : T) (b : Option Addr) (cap' : Nat) (w : World) (hty : TyAt (LT w.heap.size) w t a cap) (hty' : TyAt (LT w.heap.size) w u b cap') :
    Calls Try.prog 5 #[tv t a cap, tv u b cap'] w fun e w' => e = .returned (.bool true) ∧ Below w.heap.size w w' := by
  obtain ⟨k0, hk0⟩ : ∃ k0, t.kind = k0 := ⟨_, rfl⟩
  obtain ⟨n0, hn0⟩ : ∃ n0, t.num = n0 := ⟨_, rfl⟩
  obtain ⟨m0, hm0⟩ : ∃ m0, t.kids.length = m0 := ⟨_, rfl⟩
  obtain ⟨k9, hk9⟩ : ∃ k0, u.kind = k0 := ⟨_, rfl⟩
  obtain ⟨n9, hn9⟩ : ∃ n0, u.num = n0 := ⟨_, rfl⟩
  obtain ⟨m9, hm9⟩ : ∃ m0, u.kids.length = m0 := ⟨_, rfl⟩
  obtain ⟨hv, hhv⟩ : ∃ hv, decide (600 < Tp.sizes [t, u]) = hv := ⟨_, rfl⟩
  obtain ⟨W0, hW0⟩ : ∃ W, (w.alloc (.cells #[.int .i64 k0, .int .i64 n0, .slice a m0 cap] 24)).alloc (.cells #[.int .i64 k9, .int .i64 n9, .slice b m9 cap'] 24) = W := ⟨_, rfl⟩
  have hsz0 : W0.heap.size = w.heap.size + 2 := by rw [← hW0]; simp
  obtain ⟨hcell, htw, huw, hle, hbw⟩ := box_two hty hty' hW0
  have hhe := fun w1 (hb : Below (w.heap.size + 2) W0 w1) => heavy_any [t, u] (some ⟨w1.heap.size, 0, none⟩) 2 _ (by simp) (row_two (htw w1 hb) (huw w1 hb) hk0 hn0 hm0 hk9 hn9 hm9)
  unfold tv
  rw [hhv] at hhe
  rw [hk0, hn0, hm0, hk9, hn9, hm9]
  have HCELL := Lib.hid hcell; have HTW := Lib.hid htw; have HUW := Lib.hid huw; have HLE := Lib.hid hle; have HBW := Lib.hid hbw; have HHE := Lib.hid hhe
  have HK0 := Lib.hid hk0; have HN0 := Lib.hid hn0; have HM0 := Lib.hid hm0; have HK9 := Lib.hid hk9; have HN9 := Lib.hid hn9; have HM9 := Lib.hid hm9; have HHV := Lib.hid hhv; have HSZ0 := Lib.hid hsz0
  have HB0 := Lib.hid (Below.refl (w.heap.size + 2) W0)
  have HW0 := Lib.hid hW0
  clear hk0 hn0 hm0 hk9 hn9 hm9 hcell htw huw hle hbw hhe hhv hty hty' hsz0 hW0
  go_enter Try.func5, Try.ntmps5
  go_upto_region 1 with fail
  rw [HW0.out]
  obtain ⟨c0, c1, c2, d0, d1, d2⟩ := HCELL.out _ HB0.out
  go_wp2_with fail
  refine (HHE.out _ HB0.out).mono ?_
  clear c0 c1 c2 d0 d1 d2
  rintro e w1 ⟨rfl, hb1⟩
  have b1 := (HB0.out.alloc (by rw [HSZ0.out]; exact Nat.le_refl _) _).trans (hb1.mono (by rw [World.size_alloc, HSZ0.out]; exact Nat.le_succ _))
  obtain ⟨c0, c1, c2, d0, d1, d2⟩ := HCELL.out w1 b1
  have HB1 := Lib.hid b1
  clear b1 hb1
  cases hv
  case true =>
    go_wp2_with fail
    go_ret
    exact ⟨rfl, HBW.out _ HB1.out⟩
  have hlt1 : w.heap.size + 2 ≤ w1.heap.size := HLE.out _ HB1.out
  have HT1 := Lib.hid (HTW.out _ HB1.out); have HU1 := Lib.hid (HUW.out _ HB1.out)
  go_upto_region 4 with fail
  generalize hwp : (w1.alloc (.cells #[.int .i64 k0, .int .i64 n0, .slice a m0 cap, .int .i64 k9, .int .i64 n9, .slice b m9 cap'] 24)).alloc (.cells #[.int .i64 7, .int .i64 0, .slice (some ⟨w1.heap.size, 0, none⟩) 2 2] 24) = wp
  have HP := Lib.hid (built_ty (kk := 7) (by unfold I64; omega) rfl (Nat.le_refl _) (row_two HT1.out HU1.out HK0.out HN0.out HM0.out HK9.out HN9.out HM9.out) hwp)
  clear hwp c0 c1 c2 d0 d1 d2
  have HBP := Lib.hid (HB1.out.trans (HP.out.2.2.1.mono (HLE.out _ HB1.out)))
  obtain ⟨c0, c1, c2, d0, d1, d2⟩ := HCELL.out wp HBP.out
  have HTP := Lib.hid (HTW.out _ HBP.out); have HUP := Lib.hid (HUW.out _ HBP.out)
  have hltp : w.heap.size + 2 ≤ wp.heap.size := HLE.out _ HBP.out
  go_upto_region 5 with fail
  generalize hwf : (wp.alloc (.cells #[.int .i64 k0, .int .i64 n0, .slice a m0 cap, .int .i64 k9, .int .i64 n9, .slice b m9 cap'] 24)).alloc (.cells #[.int .i64 9, .int .i64 0, .slice (some ⟨wp.heap.size, 0, none⟩) 2 2] 24) = wf
  have HF := Lib.hid (built_ty (kk := 9) (by unfold I64; omega) rfl (Nat.le_refl _) (row_two HTP.out HUP.out HK0.out HN0.out HM0.out HK9.out HN9.out HM9.out) hwf)
  clear hwf c0 c1 c2 d0 d1 d2
  have HBF := Lib.hid (HBP.out.trans (HF.out.2.2.1.mono (HLE.out _ HBP.out)))
  obtain ⟨c0, c1, c2, d0, d1, d2⟩ := HCELL.out wf HBF.out
  have HTF := Lib.hid (HTW.out _ HBF.out); have HUF := Lib.hid (HUW.out _ HBF.out)
  have hltf : w.heap.size + 2 ≤ wf.heap.size := HLE.out _ HBF.out
  go_upto_region 6 with fail
  generalize hwl : (wf.alloc (.cells #[.int .i64 k0, .int .i64 n0, .slice a m0 cap] 24)).alloc (.cells #[.int .i64 8, .int .i64 0, .slice (some ⟨wf.heap.size, 0, none⟩) 1 1] 24) = wl
  have HL := Lib.hid (built_ty (kk := 8) (by unfold I64; omega) rfl (by simp) (row_one HTF.out HK0.out HN0.out HM0.out) hwl)
  clear hwl c0 c1 c2 d0 d1 d2
  have HBL := Lib.hid (HBF.out.trans (HL.out.2.2.1.mono (HLE.out _ HBF.out)))
  have h600 : Tp.size t ≤ 600 ∧ Tp.size u ≤ 600 := by have h := HHV.out; rw [sizes_two] at h; simp only [decide_eq_false_iff_not] at h; constructor <;> omega
  have H6 := Lib.hid h600
  clear h600 hlt1 hltp hltf
  obtain ⟨rt, hrt⟩ : ∃ x, Tp.right t = x := ⟨_, rfl⟩
  obtain ⟨ru, hru⟩ : ∃ x, Tp.right u = x := ⟨_, rfl⟩
  have hca := fun w1 (hb : Below (w.heap.size + 2) W0 w1) => check_any t a cap w1 (sz_le H6.out.1) (HTW.out w1 hb)
  have hcb := fun w1 (hb : Below (w.heap.size + 2) W0 w1) => check_any u b cap' w1 (sz_le H6.out.2) (HUW.out w1 hb)
  have hva := fun w1 (hb : Below (w.heap.size + 2) W0 w1) => vars_any t a cap w1 (sz_le H6.out.1) (HTW.out w1 hb)
  have hvb := fun w1 (hb : Below (w.heap.size + 2) W0 w1) => vars_any u b cap' w1 (sz_le H6.out.2) (HUW.out w1 hb)
  unfold tv at hca hcb hva hvb
  rw [HK0.out, HN0.out, HM0.out] at hca hva
  rw [HK9.out, HN9.out, HM9.out] at hcb hvb
  rw [hrt] at hca
  rw [hru] at hcb
  have HCA := Lib.hid hca; have HCB := Lib.hid hcb; have HVA := Lib.hid hva; have HVB := Lib.hid hvb; have HRT := Lib.hid hrt; have HRU := Lib.hid hru
  clear hca hcb hva hvb hrt hru
  obtain ⟨c0, c1, c2, d0, d1, d2⟩ := HCELL.out wl HBL.out
  go_cut [8] (fun v wx => v = .bool (rt && ru) ∧ Below wl.heap.size wl wx)
  case first =>
    cases rt
    · go_wp2_with fail
      refine (HCA.out _ HBL.out).mono ?_
      clear c0 c1 c2 d0 d1 d2
      rintro e w2 ⟨rfl, hb2⟩
      go_wp2_with fail
      go_meet
      exact ⟨rfl, hb2⟩
    · go_wp2_with fail
      have hh := HCA.out _ HBL.out
      rw [show errOf true = 0 from rfl] at hh
      refine hh.mono ?_
      clear c0 c1 c2 d0 d1 d2 hh
      rintro e w2 ⟨rfl, hb2⟩
      have HB2 := Lib.hid (HBL.out.trans (hb2.mono (HLE.out _ HBL.out)))
      obtain ⟨c0, c1, c2, d0, d1, d2⟩ := HCELL.out w2 HB2.out
      go_wp2_with fail
      clear c0 c1 c2 d0 d1 d2
      refine (HCB.out _ HB2.out).mono ?_
      rintro e w3 ⟨rfl, hb3⟩
      cases ru <;>
      · go_wp2_with fail
        go_meet
        exact ⟨rfl, hb2.trans (hb3.mono hb2.size)⟩
  case rest =>
    obtain ⟨rfl, hbc⟩ := hcut
    have HBC := Lib.hid (HBL.out.trans (hbc.mono (HLE.out _ HBL.out)))
    have HWC := Lib.hid hbc
    clear hbc c0 c1 c2 d0 d1 d2
    obtain ⟨c0, c1, c2, d0, d1, d2⟩ := HCELL.out wc HBC.out
    go_upto_region 7 with fail
    go_cut [9, 10] (fun v9 v10 wx => ∃ (a6 : Option Addr) (c6 : Nat) (a7 : Option Addr) (c7 : Nat), v9 = .slice a6 (Tp.vars t []).length c6 ∧ v10 = .slice a7 (Tp.vars u []).length c7 ∧ IntRow wx a6 (Tp.vars t []) ∧ IntRow wx a7 (Tp.vars u []) ∧ (Tp.vars t []).length ≤ c6 ∧ (Tp.vars u []).length ≤ c7 ∧ Below wl.heap.size wl wx)
    case first =>
     go_region_law (first
      | (refine step_call ?_ 22 #[.tmp 36] #[24] ?_ #[.agg #[.int .i64 k0, .int .i64 n0, .slice a m0 cap]] ?_ ?_ (HVA.out _ HBC.out.drew) rowPost_ret ?_
         (· rfl)
         (· rfl)
         (· simp [Act.eval])
         (· exact enters_of Try.func22 (by kernel_rfl) rfl)
         rintro v6 w6 ⟨v6', h1, own6, hb6⟩
         injection h1 with h1
         subst h1
         have HOWN6 := Lib.hid own6
         have HB6 := Lib.hid hb6
         have HBB6 := Lib.hid (HBC.out.drew.trans (hb6.mono (HLE.out _ HBC.out.drew)))
         obtain ⟨c60, c61, c62, d60, d61, d62⟩ := HCELL.out w6 HBB6.out
         clear own6 hb6)
      | (refine step_call ?_ 22 #[.tmp 38] #[24] ?_ #[.agg #[.int .i64 k9, .int .i64 n9, .slice b m9 cap']] ?_ ?_ (HVB.out _ HBB6.out) rowPost_ret ?_
         (· rfl)
         (· rfl)
         (· simp [Act.eval])
         (· exact enters_of Try.func22 (by kernel_rfl) rfl)
         rintro v7 w7 ⟨v7', h1, own7, hb7⟩
         injection h1 with h1
         subst h1
         have HOWN7 := Lib.hid own7
         have HB7 := Lib.hid hb7
         have HBB7 := Lib.hid (HBB6.out.trans (hb7.mono (HLE.out _ HBB6.out)))
         obtain ⟨c70, c71, c72, d70, d71, d72⟩ := HCELL.out w7 HBB7.out
         clear own7 hb7))
     all_goals
       go_wp2_with fail
       go_meet
       obtain ⟨a6, c6, rfl⟩ := own_shape' HOWN6.out
       obtain ⟨a7, c7, rfl⟩ := own_shape' HOWN7.out
       exact ⟨a6, c6, a7, c7, rfl, rfl, (IntRow.of_own HOWN6.out).2.below HB7.out (Nat.le_refl _), (IntRow.of_own HOWN7.out).2, le_of_own HOWN6.out, le_of_own HOWN7.out, (HWC.out.drew.trans (HB6.out.mono HWC.out.drew.size)).trans (HB7.out.mono (Nat.le_trans HWC.out.drew.size HB6.out.size))⟩
    case rest =>
      obtain ⟨a6, c6, a7, c7, rfl, rfl, hr6, hr7, hl6, hl7, hbd⟩ := hcut
      have HR6 := Lib.hid hr6; have HR7 := Lib.hid hr7; have HWD := Lib.hid hbd
      clear hr6 hr7 hbd c0 c1 c2 d0 d1 d2
      obtain ⟨lv, hlv⟩ : ∃ x, (Tp.vars t []).length = x := ⟨_, rfl⟩
      obtain ⟨lw, hlw⟩ : ∃ x, (Tp.vars u []).length = x := ⟨_, rfl⟩
      rw [hlv] at hl6 ⊢
      rw [hlw] at hl7 ⊢
      have HLV := Lib.hid hlv; have HLW := Lib.hid hlw
      clear hlv hlw
      have hbpc : Below wp.heap.size wp wc := HF.out.2.2.1.trans ((HL.out.2.2.1.mono HF.out.2.2.1.size).trans (HWD.out.mono (Nat.le_trans HF.out.2.2.1.size HL.out.2.2.1.size)))
      have hbfc : Below wf.heap.size wf wc := HL.out.2.2.1.trans (HWD.out.mono HL.out.2.2.1.size)
      have HBPC := Lib.hid hbpc; have HBFC := Lib.hid hbfc
      obtain ⟨p0, p1, p2⟩ := cells3 HP.out.1 hbpc
      have hvp := vars_any (.mk 7 0 [t, u]) (some ⟨w1.heap.size, 0, none⟩) 2 wc (by rw [two_size]; have := H6.out; omega) (HP.out.2.1.below hbpc (fun _ h => h) (fun _ h => Nat.lt_of_lt_of_le h hbpc.size))
      rw [two_vars] at hvp
      have hvp2 : Calls Try.prog 22 #[.agg #[.int .i64 7, .int .i64 0, .slice (some ⟨w1.heap.size, 0, none⟩) 2 2]] wc (RowPost (Tp.vars u (Tp.vars t [])) wc) := hvp
      have HVP := Lib.hid hvp2
      clear hvp hvp2 hbpc hbfc
      go_wp2_with fail
      refine HVP.out.mono ?_
      clear p0 p1 p2
      rintro e w8 ⟨v8, rfl, own8, hb8⟩
      obtain ⟨a8, c8, rfl⟩ := own_shape' own8
      have HR8 := Lib.hid (IntRow.of_own own8).2
      have hl8 := le_of_own own8
      obtain ⟨lu, hlu⟩ : ∃ x, (Tp.vars u (Tp.vars t [])).length = x := ⟨_, rfl⟩
      rw [hlu] at hl8 ⊢
      have HLU := Lib.hid hlu; have HB8 := Lib.hid hb8
      clear hlu hb8 own8
      go_wp2_with fail
      obtain ⟨pr, hpr⟩ : ∃ x, (rt && ru) = x := ⟨_, rfl⟩
      rw [hpr]
      obtain ⟨C, hC⟩ : ∃ C : World → Prop, ∀ w', C w' ↔ Below w8.heap.size w8 w' := ⟨_, fun _ => Iff.rfl⟩
      have bl : Below wl.heap.size wl w8 := HWD.out.trans (HB8.out.mono HWD.out.size)
      have bt : ∀ w', C w' → Below (w.heap.size + 2) W0 w' := fun w' h => HBL.out.trans ((bl.trans (((hC w').1 h).mono bl.size)).mono (HLE.out _ HBL.out))
      have bp : ∀ w', C w' → Below wp.heap.size wp w' := fun w' h => (HBPC.out.trans (HB8.out.mono HBPC.out.size)).trans (((hC w').1 h).mono (Nat.le_trans HBPC.out.size HB8.out.size))
      have bf : ∀ w', C w' → Below wf.heap.size wf w' := fun w' h => (HBFC.out.trans (HB8.out.mono HBFC.out.size)).trans (((hC w').1 h).mono (Nat.le_trans HBFC.out.size HB8.out.size))
      have bll : ∀ w', C w' → Below wl.heap.size wl w' := fun w' h => bl.trans (((hC w').1 h).mono bl.size)
      have tp : ∀ w', C w' → TyAt (LT w'.heap.size) w' (.mk 7 0 [t, u]) (some ⟨w1.heap.size, 0, none⟩) 2 := fun w' h => HP.out.2.1.below (bp w' h) (fun _ h => h) (fun _ h2 => Nat.lt_of_lt_of_le h2 (bp w' h).size)
      have tf : ∀ w', C w' → TyAt (LT w'.heap.size) w' (.mk 9 0 [t, u]) (some ⟨wp.heap.size, 0, none⟩) 2 := fun w' h => HF.out.2.1.below (bf w' h) (fun _ h => h) (fun _ h2 => Nat.lt_of_lt_of_le h2 (bf w' h).size)
      have tl : ∀ w', C w' → TyAt (LT w'.heap.size) w' (.mk 8 0 [t]) (some ⟨wf.heap.size, 0, none⟩) 1 := fun w' h => HL.out.2.1.below (bll w' h) (fun _ h => h) (fun _ h2 => Nat.lt_of_lt_of_le h2 (bll w' h).size)
      have sp : ∀ k, Tp.size (.mk k 0 [t, u]) ≤ 10000 := fun k => by rw [two_size]; have := H6.out; omega
      have sl : Tp.size (.mk 8 0 [t]) ≤ 10000 := by rw [one_size]; have := H6.out; omega
      have q1 := fun w' (h : C w') => quiet_of hC h (check_any _ _ _ w' (sp 7) (tp w' h))
      have q2 := fun w' (h : C w') => quiet_of hC h (check_any _ _ _ w' (sp 9) (tf w' h))
      have q3 := fun w' (h : C w') => quiet_of hC h (check_any _ _ _ w' sl (tl w' h))
      have q4 := fun w' (h : C w') => quiet_of hC h (HCA.out w' (bt w' h))
      have q5 := fun w' (h : C w') => quiet_of hC h (same_any _ _ _ _ _ _ w' (sp 7) (tp w' h) (tf w' h))
      have q6 := fun w' (h : C w') => quiet_of hC h (size_any _ _ _ w' (sp 7) (tp w' h))
      have q7 := fun w' (h : C w') => quiet_of hC h (size_any t a cap w' (sz_le H6.out.1) (HTW.out w' (bt w' h)))
      have q8 := fun w' (h : C w') => quiet_of hC h (size_any u b cap' w' (sz_le H6.out.2) (HUW.out w' (bt w' h)))
      have q9 := fun w' (h : C w') => quiet_of hC h (size_any _ _ _ w' sl (tl w' h))
      have qa := fun w' (h : C w') => quiet_of hC h (depth_any _ _ _ w' (sp 9) (tf w' h))
      have qb := fun w' (h : C w') => quiet_of hC h (depth_any t a cap w' (sz_le H6.out.1) (HTW.out w' (bt w' h)))
      have qc := fun w' (h : C w') => quiet_of hC h (depth_any u b cap' w' (sz_le H6.out.2) (HUW.out w' (bt w' h)))
      have qd := fun w' (h : C w') => quiet_of hC h (depth_any _ _ _ w' sl (tl w' h))
      obtain ⟨s1, hs1⟩ : ∃ x, Tp.size t = x := ⟨_, rfl⟩
      obtain ⟨s2, hs2⟩ : ∃ x, Tp.size u = x := ⟨_, rfl⟩
      obtain ⟨g1, hg1⟩ : ∃ x, Tp.depth t = x := ⟨_, rfl⟩
      obtain ⟨g2, hg2⟩ : ∃ x, Tp.depth u = x := ⟨_, rfl⟩
      have hb12 : s1 ≤ 600 ∧ s2 ≤ 600 ∧ g1 ≤ 600 ∧ g2 ≤ 600 := by have := H6.out; have := Tp.depth_le_size t; have := Tp.depth_le_size u; omega
      obtain ⟨w12, w12', w1', wg, wg'⟩ := wraps9 hb12
      rw [two_right 7 (Or.inl rfl), HRT.out, HRU.out, hpr] at q1
      rw [two_right 9 (Or.inr rfl), HRT.out, HRU.out, hpr] at q2
      rw [list_right, HRT.out] at q3
      rw [two_unlike] at q5
      rw [two_size, hs1, hs2] at q6
      rw [hs1] at q7
      rw [hs2] at q8
      rw [one_size, hs1] at q9
      rw [two_depth, hg1, hg2] at qa
      rw [hg1] at qb
      rw [hg2] at qc
      rw [one_depth, hg1] at qd
      unfold tv at q1 q2 q3 q5 q6 q7 q8 q9 qa qb qc qd
      rw [HK0.out, HN0.out, HM0.out] at q7 qb
      rw [HK9.out, HN9.out, HM9.out] at q8 qc
      simp only [show ∀ k x, (T.mk k 0 x).kind = k from fun _ _ => rfl, show ∀ k x, (T.mk k 0 x).num = 0 from fun _ _ => rfl, show ∀ k x, (T.mk k 0 x).kids = x from fun _ _ => rfl, List.length_cons, List.length_nil, Nat.zero_add, Nat.reduceAdd] at q1 q2 q3 q5 q6 q9 qa qd
      have HQ1 := Lib.hid q1; have HQ2 := Lib.hid q2; have HQ3 := Lib.hid q3; have HQ4 := Lib.hid q4; have HQ5 := Lib.hid q5; have HQ6 := Lib.hid q6; have HQ7 := Lib.hid q7; have HQ8 := Lib.hid q8; have HQ9 := Lib.hid q9; have HQA := Lib.hid qa; have HQB := Lib.hid qb; have HQC := Lib.hid qc; have HQD := Lib.hid qd
      have HBT := Lib.hid bt
      have HZP := Lib.hid (fun w' (h : C w') => cells3 HP.out.1 (bp w' h)); have HZF := Lib.hid (fun w' (h : C w') => cells3 HF.out.1 (bf w' h)); have HZL := Lib.hid (fun w' (h : C w') => cells3 HL.out.1 (bll w' h))
      have HC := Lib.hid hC; have HPR := Lib.hid hpr; have HTPC := Lib.hid tp; have HTFC := Lib.hid tf; have HSP := Lib.hid sp; have HL8 := Lib.hid hl8; have HL6 := Lib.hid hl6
      have gP : (errOf pr == 0) = pr := by cases pr <;> rfl
      clear q1 q2 q3 q4 q5 q6 q7 q8 q9 qa qb qc qd bl bt bp bf bll tp tf tl sp sl hC hpr hs1 hs2 hg1 hg2 hb12
      refine wp_region_quiet_c (C := C) (by kernel_rfl) (by kernel_rfl) ((HC.out _).2 (Below.refl w8.heap.size w8).drew) ?_
      repeat
        (refine wpQuiet_step (fun K hK => ?_)
         go_simp
         first
           | (refine hK _ ?_; clear hK K)
           | (apply Exists.intro
              refine ⟨fun wq hq => ?_, hK _ ?_⟩
              first
             | (with_reducible exact rfl)
             | (go_at_call 11; with_reducible exact HQ1.out wq hq)
             | (go_at_call 11; with_reducible exact HQ2.out wq hq)
             | (go_at_call 11; with_reducible exact HQ3.out wq hq)
             | (go_at_call 11; with_reducible exact HQ4.out wq hq)
             | (go_at_call 12; with_reducible exact HQ5.out wq hq)
             | (go_at_call 14; with_reducible exact HQ6.out wq hq)
             | (go_at_call 14; with_reducible exact HQ7.out wq hq)
             | (go_at_call 14; with_reducible exact HQ8.out wq hq)
             | (go_at_call 14; with_reducible exact HQ9.out wq hq)
             | (go_at_call 16; with_reducible exact HQA.out wq hq)
             | (go_at_call 16; with_reducible exact HQB.out wq hq)
             | (go_at_call 16; with_reducible exact HQC.out wq hq)
             | (go_at_call 16; with_reducible exact HQD.out wq hq)
             | (obtain ⟨c0, c1, c2, d0, d1, d2⟩ := HCELL.out wq (HBT.out wq hq)
                obtain ⟨z0, z1, z2⟩ := HZP.out wq hq
                obtain ⟨y0, y1, y2⟩ := HZF.out wq hq
                obtain ⟨x0, x1, x2⟩ := HZL.out wq hq
                go_simp
                done)
             | (obtain ⟨c0, c1, c2, d0, d1, d2⟩ := HCELL.out wq (HBT.out wq hq)
                obtain ⟨z0, z1, z2⟩ := HZP.out wq hq
                obtain ⟨y0, y1, y2⟩ := HZF.out wq hq
                obtain ⟨x0, x1, x2⟩ := HZL.out wq hq
                go_simp
                with_reducible exact rfl)
              clear hK K))
      refine wpQuiet_nil ?_
      intro wq hq
      generalize (if g1 < g2 then (g2 : Int) else (g1 : Int)) = mx
      have HCQ := Lib.hid hq
      clear hq w12 w12' w1' wg wg' gP hl6 hl7 hl8
      go_upto_region 11 with fail
      have q1 := fun w' (h : C w') => quiet_of HC.out h (static_any _ _ _ w' (HSP.out 7) (HTPC.out w' h))
      have q2 := fun w' (h : C w') => quiet_of HC.out h (static_any t a cap w' (sz_le H6.out.1) (HTW.out w' (HBT.out w' h)))
      have q3 := fun w' (h : C w') => quiet_of HC.out h (static_any u b cap' w' (sz_le H6.out.2) (HUW.out w' (HBT.out w' h)))
      have q4 := fun w' (h : C w') => quiet_of HC.out h (closed_any _ _ _ w' (HSP.out 9) (HTFC.out w' h))
      have q5 := fun w' (h : C w') => quiet_of HC.out h (closed_any t a cap w' (sz_le H6.out.1) (HTW.out w' (HBT.out w' h)))
      have q6 := fun w' (h : C w') => quiet_of HC.out h (closed_any u b cap' w' (sz_le H6.out.2) (HUW.out w' (HBT.out w' h)))
      obtain ⟨mm, hmm⟩ := vars_pre u (Tp.vars t [])
      have hpre : (Tp.vars u (Tp.vars t [])).take lv = Tp.vars t [] := by rw [hmm, ← HLV.out, List.take_left]
      have hlvu : lv ≤ lu := by have h := congrArg List.length hmm; rw [HLU.out, List.length_append, HLV.out] at h; omega
      have hlv6 : lv ≤ 600 := len_le H6.out.1 rfl HLV.out
      have hlw6 : lw ≤ 600 := len_le H6.out.2 rfl HLW.out
      have hov := (pair_over t u).len
      rw [HLV.out, HLW.out, HLU.out] at hov
      have qi := fun w' (h : C w') => quiet_of HC.out h (ints_any ((Tp.vars u (Tp.vars t [])).take lv) (Tp.vars t []) a8 c8 a6 c6 w' (by rw [hpre, HLV.out]; omega) (by rw [HLV.out]; omega) ((HR8.out.below ((HC.out w').1 h) (Nat.le_refl _)).take lv) ((HR6.out.below HB8.out (Nat.le_refl _)).below ((HC.out w').1 h) (Nat.le_refl _)))
      rw [hpre, HLV.out, decide_eq_true rfl] at qi
      rw [two_without 5 7 0 (by omega)] at q1
      rw [two_without 6 9 0 (by omega)] at q4
      obtain ⟨st, hst⟩ : ∃ x, Tp.without 5 t = x := ⟨_, rfl⟩
      obtain ⟨su, hsu⟩ : ∃ x, Tp.without 5 u = x := ⟨_, rfl⟩
      obtain ⟨ct, hct⟩ : ∃ x, Tp.without 6 t = x := ⟨_, rfl⟩
      obtain ⟨cu, hcu⟩ : ∃ x, Tp.without 6 u = x := ⟨_, rfl⟩
      rw [hst, hsu] at q1
      rw [hst] at q2
      rw [hsu] at q3
      rw [hct, hcu] at q4
      rw [hct] at q5
      rw [hcu] at q6
      unfold tv at q1 q2 q3 q4 q5 q6
      rw [HK0.out, HN0.out, HM0.out] at q2 q5
      rw [HK9.out, HN9.out, HM9.out] at q3 q6
      simp only [show ∀ k x, (T.mk k 0 x).kind = k from fun _ _ => rfl, show ∀ k x, (T.mk k 0 x).num = 0 from fun _ _ => rfl, show ∀ k x, (T.mk k 0 x).kids = x from fun _ _ => rfl, List.length_cons, List.length_nil, Nat.zero_add, Nat.reduceAdd] at q1 q4
      have HR1 := Lib.hid q1; have HR2 := Lib.hid q2; have HR3 := Lib.hid q3; have HR4 := Lib.hid q4; have HR5 := Lib.hid q5; have HR6' := Lib.hid q6; have HRI := Lib.hid qi
      have HOV := Lib.hid (show lv ≤ lu ∧ lv ≤ 600 ∧ lw ≤ 600 ∧ lu ≤ lv + lw from ⟨hlvu, hlv6, hlw6, hov⟩)
      have htk := int_take a8 lu c8 lv (by have := HL8.out; omega)
      have hnl : ¬ ((lu : Int) < (lv : Int)) := by omega
      clear q1 q2 q3 q4 q5 q6 qi hst hsu hct hcu hmm hpre hlvu hlv6 hlw6 hov
      have tail : ∀ st su ct cu : Bool, True := fun _ _ _ _ => trivial
      clear tail
      cases st <;> cases ct
      all_goals
        refine wp_region_quiet_c (C := C) (by kernel_rfl) (by kernel_rfl) ((HC.out _).2 ((HC.out _).1 HCQ.out).drew) ?_
        repeat
          (refine wpQuiet_step (fun K hK => ?_)
           go_simp
           first
             | (refine hK _ ?_; clear hK K)
             | (apply Exists.intro
                refine ⟨fun wq hq => ?_, hK _ ?_⟩
                first
               | (with_reducible exact rfl)
               | (go_at_call 18; with_reducible exact HR1.out wq hq)
               | (go_at_call 18; with_reducible exact HR2.out wq hq)
               | (go_at_call 18; with_reducible exact HR3.out wq hq)
               | (go_at_call 20; with_reducible exact HR4.out wq hq)
               | (go_at_call 20; with_reducible exact HR5.out wq hq)
               | (go_at_call 20; with_reducible exact HR6'.out wq hq)
               | (go_at_call 21; with_reducible exact HRI.out wq hq)
               | (obtain ⟨c0, c1, c2, d0, d1, d2⟩ := HCELL.out wq (HBT.out wq hq)
                  obtain ⟨z0, z1, z2⟩ := HZP.out wq hq
                  obtain ⟨y0, y1, y2⟩ := HZF.out wq hq
                  go_simp
                  done)
               | (obtain ⟨c0, c1, c2, d0, d1, d2⟩ := HCELL.out wq (HBT.out wq hq)
                  obtain ⟨z0, z1, z2⟩ := HZP.out wq hq
                  obtain ⟨y0, y1, y2⟩ := HZF.out wq hq
                  go_simp
                  with_reducible exact rfl)
                clear hK K))
        refine wpQuiet_nil ?_
        intro wz hz
        have HCZ := Lib.hid hz
        clear hz
        clear htk hnl
        go_wp2_with fail
        go_loopg [12] lw (fun gk i wr => ∃ k : Nat, k ≤ lw ∧ i = .int .i64 k ∧ C wr ∧ gk = lw - k)
        case atStart => exact ⟨0, Nat.zero_le _, rfl, HCZ.out, rfl⟩
        case round =>
          obtain ⟨k, hk, rfl, hcr, rfl⟩ := hrel
          have HCR := Lib.hid hcr
          clear hcr
          by_cases hlt : k < lw
          · have hkl : k < (Tp.vars u []).length := by rw [HLW.out]; exact hlt
            have hrr := ((HR7.out.below HB8.out (Nat.le_refl _)).below ((HC.out wr).1 HCR.out) (Nat.le_refl _))
            have hin := in_any (Tp.vars u (Tp.vars t [])) a8 c8 (Tp.vars u [])[k] wr (by rw [HLU.out]; have := HOV.out; omega) (HR8.out.below ((HC.out wr).1 HCR.out) (Nat.le_refl _))
            rw [HLU.out, decide_eq_true ((pair_over t u).sub _ (List.getElem_mem hkl))] at hin
            obtain ⟨b7, o7, rfl, hbl, hN⟩ := hrr.resolve_left (fun e => by rw [e] at hkl; simp at hkl)
            have cx := hN k hkl
            obtain ⟨x, hx⟩ : ∃ x, (Tp.vars u [])[k] = x := ⟨_, rfl⟩
            rw [hx] at cx hin
            have HIN := Lib.hid hin
            have hk6 : (k : Int) ≤ 600 := by have := HOV.out; omega
            clear hx hN hrr hin hkl
            go_wp2_with fail
            refine HIN.out.mono ?_
            clear cx
            rintro e w9 ⟨rfl, h9⟩
            subst h9
            go_wp2_with fail
            go_roundg (lw - (k + 1))
            case measure => omega
            case rel =>
              have h6 := HOV.out
              have h7 := wrap_next (n := k) (by omega)
              exact ⟨k + 1, by omega, by first | go_num | (rw [h7]; rfl) | (simp only [h7, Int.natCast_add]; rfl), HCR.out, rfl⟩
          · obtain rfl : k = lw := by omega
            have hwr : wrap64 ((lv : Int) + (k : Int)) = (lv : Int) + k := by have := HOV.out; unfold wrap64; omega
            have hwr2 : IntKind.i64.wrap ((lv : Int) + (k : Int)) = (lv : Int) + k := by have := HOV.out; simp [IntKind.wrap, IntKind.bits, IntKind.signed]; omega
            have hle9 : (lu : Int) ≤ (lv : Int) + k := by have := HOV.out; omega
            go_wp2_with fail
            refine (wakes_any wr).mono ?_
            rintro e w9 ⟨rfl, h9⟩
            go_wp2_with fail
            go_ret
            exact ⟨rfl, HBW.out _ ((HBT.out wr HCR.out).trans (h9.mono (HLE.out _ (HBT.out wr HCR.out))))⟩
end Go.Proofs.Ytlmcklicnmbhdaa
