/- StoreLinks: the walk. -/
import Derived.Test.YtaaapdfdedknfaaSuC
import Derived.Test.YtaaapdfdedknfaaSuD
import Derived.Test.YtaaapdfdedknfaaStY
import Derived.Test.YtaaapdfdedknfaaStU
import Derived.Test.YtaaapdfdedknfaaTrF
namespace Go.Proofs.Ytaaapdfdedknfaa
open Go Go.RowKit
open Tp (T)
open Sg (Of Rt Den Dens Alk Mkd trav travs rootOf kidsOf)
set_option maxRecDepth 100000 in
theorem intn_any (x : Int) (n : Nat) (h0 : 0 < n) (hn : n ≤ 1000000) (w : World) : ∃ k : Nat, k < n ∧ Calls Try.prog 32 #[.int .i64 x, .int .i64 (n : Int)] w fun e w' => e = .returned (.int .i64 (k : Int)) ∧ w' = w := by
  have h : 0 ≤ IntKind.u64.wrap x := by
    simp [IntKind.wrap, IntKind.bits, IntKind.signed]
    omega
  have hw : IntKind.u64.wrap (n : Int) = (n : Int) := by
    simp [IntKind.wrap, IntKind.bits, IntKind.signed]
    omega
  have h3 : 0 ≤ (IntKind.u64.wrap x).tmod (n : Int) ∧ (IntKind.u64.wrap x).tmod (n : Int) < (n : Int) := by
    rw [Int.tmod_eq_emod_of_nonneg h]
    exact ⟨Int.emod_nonneg _ (by omega), Int.emod_lt_of_pos _ (by omega)⟩
  obtain ⟨r, hr⟩ : ∃ r, (IntKind.u64.wrap x).tmod (n : Int) = r := ⟨_, rfl⟩
  rw [hr] at h3
  have h4 : wrap64 r = r := by unfold wrap64; omega
  have h7 : (r.toNat : Int) = r := by omega
  have hz : ((n : Int) == 0) = false := by simp; omega
  refine ⟨r.toNat, by omega, ?_⟩
  rw [h7]
  clear h
  go_enter Try.func32, Try.ntmps32
  go_wp2_with fail
  go_ret
  exact ⟨rfl, rfl⟩
set_option maxRecDepth 100000 in
set_option maxHeartbeats 8000000 in
theorem llinks12_any (t : T) (a : Option Addr) (cap : Nat) (u : T) (b : Option Addr) (cap' : Nat) (x : Int) (w : World) (_ : I64 x) (hty : TyAt (LT w.heap.size) w t a cap) (hty' : TyAt (LT w.heap.size) w u b cap') :
    Calls Try.prog 5 #[tv t a cap, tv u b cap', .int .i64 x] w fun e w' => e = .returned (.bool true) ∧ Below w.heap.size w w' := by
  obtain ⟨k0, n0, m0, hv⟩ := TV.mk t
  obtain ⟨k9, n9, m9, hv'⟩ := TV.mk u
  rw [tv_of hv, tv_of hv']
  obtain ⟨W3, hW3⟩ : ∃ W2, (w.alloc (.cells #[.int .i64 k0, .int .i64 n0, .slice a m0 cap] 26)).alloc (.cells #[.int .i64 k9, .int .i64 n9, .slice b m9 cap'] 26) = W2 := ⟨_, rfl⟩
  have hb3 : Below w.heap.size w W3 := by rw [← hW3]; exact ((Below.refl _ _).alloc (Nat.le_refl _) _).alloc (by simp) _
  have hs3 : W3.heap.size = w.heap.size + 2 := by rw [← hW3]; simp
  have bx : BoxT W3 w.heap.size t k0 n0 m0 a cap := ⟨hv, by rw [← hW3]; exact box1 _ _ _ _ _, ty_later hty hb3⟩
  have bu : BoxT W3 (w.heap.size + 1) u k9 n9 m9 b cap' := ⟨hv', by rw [← hW3]; exact box2 _ _ _ _ _, ty_later hty' hb3⟩
  have hhe := heavy_any [t, u] (some ⟨W3.heap.size, 0, none⟩) 2 _ (by simp) (row_two bx.ty bu.ty hv.1 hv.2.1 hv.2.2 hv'.1 hv'.2.1 hv'.2.2)
  obtain ⟨hz, hhz⟩ : ∃ q, decide (600 < Tp.sizes [t, u]) = q := ⟨_, rfl⟩
  rw [hhz] at hhe
  have HHE := Lib.hid hhe; have HHZ := Lib.hid hhz; have HB3 := Lib.hid hb3; have HS3 := Lib.hid hs3; have HW3 := Lib.hid hW3; have BX := Lib.hid bx; have BU := Lib.hid bu; have HTY := Lib.hid hty; have HTY' := Lib.hid hty'; have HV := Lib.hid hv; have HV' := Lib.hid hv'
  clear hhe hhz hb3 hs3 hW3 hty hty' hv hv'
  go_enter Try.func5, Try.ntmps5
  go_upto_region 1 with fail
  rw [HW3.out]
  obtain ⟨c0, c1, c2⟩ := bx.cells
  obtain ⟨d0, d1, d2⟩ := bu.cells
  clear bx bu
  cases hz with
  | true =>
    go_wp2_with (go_at_call 15; refine HHE.out.mono ?_; clear c0 c1 c2 d0 d1 d2; rintro e w4 ⟨rfl, hb⟩; have HB4 := Lib.hid (Go.RowKit.Below.tr ((Below.refl W3.heap.size W3).alloc (Nat.le_refl _) _) hb (Nat.le_refl _)); clear hb)
    go_ret
    exact ⟨rfl, HB3.out.tr HB4.out (Nat.le_refl _)⟩
  | false =>
    go_wp2_with (go_at_call 15; refine HHE.out.mono ?_; clear c0 c1 c2 d0 d1 d2; rintro e w4 ⟨rfl, hb⟩; have HB4 := Lib.hid (Go.RowKit.Below.tr ((Below.refl W3.heap.size W3).alloc (Nat.le_refl _) _) hb (Nat.le_refl _)); have BX4 := Lib.hid (BX.out.later HB4.out); have BU4 := Lib.hid (BU.out.later HB4.out); obtain ⟨c0, c1, c2⟩ := BX4.out.cells; obtain ⟨d0, d1, d2⟩ := BU4.out.cells; clear hb)
    obtain ⟨r1, hr1⟩ : ∃ q, Tp.right t = q := ⟨_, rfl⟩
    obtain ⟨r2, hr2⟩ : ∃ q, Tp.right u = q := ⟨_, rfl⟩
    have hc1 := rright_any _ t a cap w4 (Nat.le_refl _) BX4.out.ty
    rw [tv_of HV.out, hr1] at hc1
    have HR1 := Lib.hid hr1; have HR2 := Lib.hid hr2
    clear hr1 hr2
    refine hc1.mono ?_
    clear hc1
    rintro e w5 ⟨rfl, hb⟩
    have HB5 := Lib.hid ((HB3.out.tr HB4.out (Nat.le_refl _)).tr hb (Nat.le_refl _)); have BX5 := Lib.hid (BX4.out.later hb); have BU5 := Lib.hid (BU4.out.later hb); have HZ5 := Lib.hid (show w.heap.size + 2 ≤ w5.heap.size by have := HS3.out; have := HB4.out.size; have := hb.size; omega)
    clear hb c0 c1 c2 d0 d1 d2
    cases r1 with
    | false =>
      go_wp2_with fail
      go_ret
      exact ⟨rfl, HB5.out⟩
    | true =>
    obtain ⟨d0, d1, d2⟩ := BU5.out.cells
    go_wp2_with fail
    have hc1 := rright_any _ u b cap' w5 (Nat.le_refl _) BU5.out.ty
    rw [tv_of HV'.out, HR2.out] at hc1
    refine hc1.mono ?_
    clear hc1
    rintro e w6 ⟨rfl, hb⟩
    have HB6 := Lib.hid (HB5.out.tr hb (Nat.le_refl _)); have BX6 := Lib.hid (BX5.out.later hb); have BU6 := Lib.hid (BU5.out.later hb); have HZ6 := Lib.hid (Nat.le_trans HZ5.out hb.size)
    clear hb d0 d1 d2
    cases r2 with
    | false =>
      go_wp2_with fail
      go_ret
      exact ⟨rfl, HB6.out⟩
    | true =>
    go_wp2_with fail
    refine (new12_any 65536 w6).mono ?_
    rintro e w7 ⟨g1, cap1, rfl, hsv, hb⟩
    rw [show min (max (65536 : Int) 0) 65536 = 65536 from by decide] at hsv
    have hmm := @run_makeMap Try.prog
    have S7 := Lib.hid hsv; have HB7 := Lib.hid hb
    clear hsv hb
    go_upto_region 7 with fail
    obtain ⟨W8, hW8⟩ : ∃ W, w7.alloc (.map #[] 0) = W := ⟨_, rfl⟩
    rw [hW8]
    have hb8 : Below w7.heap.size w7 W8 := by rw [← hW8]; exact (Below.refl _ _).alloc (Nat.le_refl _) _
    have hs8 : W8.heap.size = w7.heap.size + 1 := by rw [← hW8]; simp
    have hi1 : IMAt W8 w7.heap.size 0 (fun _ => none) := by rw [← hW8]; exact im_new w7
    have h67 : w6.heap.size < w7.heap.size := S7.out.far.2.2.1
    have hg1 := S7.out.far
    have hz6 := HZ6.out
    have hb68 : Below w6.heap.size w6 W8 := HB7.out.tr hb8 (Nat.le_refl _)
    have hbx8 := (hb68.block w.heap.size (by omega)).trans BX6.out.box
    have hbu8 := (hb68.block (w.heap.size + 1) (by omega)).trans BU6.out.box
    have hb08 : Below w.heap.size w W8 := HB6.out.tr hb68 (Nat.le_refl _)
    have hty8 : TyAt (LT w.heap.size) W8 t a cap := ty_same (fun k hk => hb08.block k hk) (fun _ h => h) HTY.out
    have htu8 : TyAt (LT w.heap.size) W8 u b cap' := ty_same (fun k hk => hb08.block k hk) (fun _ h => h) HTY'.out
    have hsz : Tp.size t + Tp.size u ≤ 600 := by have h9 := of_decide_eq_false HHZ.out; rw [sizes_two] at h9; omega
    have hmade := made12_any w.heap.size w6.heap.size w6.heap.size w7.heap.size 65536 0 3 (by omega) (by omega) (by omega) (by omega) (Tp.size t) t g1 cap1 0 0 (lvs 5) (fun _ => none) a cap W8 (Nat.le_refl _) HR1.out (S7.out.below hb8) ⟨by decide, by decide, by decide, by decide⟩ (by omega) hi1 (by omega) (fun k p h => by cases h) lv_five hty8 (by omega)
    rw [tv_of HV.out] at hmade
    have c0 : W8.cell? ⟨w.heap.size, 0, none⟩ = some (.int .i64 k0) := cell_box hbx8 rfl rfl
    have c1 : W8.cell? ⟨w.heap.size, 1, none⟩ = some (.int .i64 n0) := cell_box hbx8 rfl rfl
    have c2 : W8.cell? ⟨w.heap.size, 2, none⟩ = some (.slice a m0 cap) := cell_box hbx8 rfl rfl
    have HM1 := Lib.hid hmade; have HS8 := Lib.hid hs8; have H67 := Lib.hid h67; have HG1 := Lib.hid hg1; have HBX8 := Lib.hid hbx8; have HBU8 := Lib.hid hbu8; have HTU8 := Lib.hid htu8; have HTY8 := Lib.hid hty8; have HSZ := Lib.hid hsz; have HB08 := Lib.hid hb08
    clear hmade hW8 hb8 hs8 hi1 h67 hg1 hz6 hb68 hbx8 hbu8 hb08 hty8 htu8 hsz hmm
    go_wp2_with fail
    refine HM1.out.mono ?_
    clear HM1 c0 c1 c2
    rintro e w9 ⟨g2, cap2, p1, nm1, C1, H1, M1, rfl, hsv, hC, hbd, hmp, hnm, hgr, him, hk, hg, hct, hoc⟩
    have h67 := H67.out; have hg1 := HG1.out; have hz6 := HZ6.out; have hs8 := HS8.out; have hsz := HSZ.out
    have hbu9 := hk.heap HBU8.out (by omega) (by omega)
    have hbx9 := hk.heap HBX8.out (by omega) (by omega)
    have htu9 : TyAt (LT w.heap.size) w9 u b cap' := ty_same (fun k hk9 => hk.block k (by have : k < w.heap.size := hk9; omega) (by have : k < w.heap.size := hk9; omega)) (fun _ h => h) HTU8.out
    have hty9 : TyAt (LT w.heap.size) w9 t a cap := ty_same (fun k hk9 => hk.block k (by have : k < w.heap.size := hk9; omega) (by have : k < w.heap.size := hk9; omega)) (fun _ h => h) HTY8.out
    have hg2 : g2 < w7.heap.size ∨ w7.heap.size + 1 ≤ g2 := by rcases hg with h | h <;> omega
    have hok1 : MapOk H1 M1 := hgr.ok (fun k p h => by cases h)
    have hmade := made12_any w.heap.size w6.heap.size w6.heap.size w7.heap.size 65536 0 5 (by omega) (by omega) (by omega) (by omega) (Tp.size u) u g2 cap2 nm1 C1 H1 M1 b cap' w9 (Nat.le_refl _) HR2.out hsv hbd (by omega) hmp (by omega) hok1 (hgr.lv lv_five) htu9 (by omega)
    rw [tv_of HV'.out] at hmade
    have d0 : w9.cell? ⟨w.heap.size + 1, 0, none⟩ = some (.int .i64 k9) := cell_box hbu9 rfl rfl
    have d1 : w9.cell? ⟨w.heap.size + 1, 1, none⟩ = some (.int .i64 n9) := cell_box hbu9 rfl rfl
    have d2 : w9.cell? ⟨w.heap.size + 1, 2, none⟩ = some (.slice b m9 cap') := cell_box hbu9 rfl rfl
    have HM2 := Lib.hid hmade; have S9 := Lib.hid hsv; have HC1 := Lib.hid hC; have HBD1 := Lib.hid hbd; have HGR1 := Lib.hid hgr; have HIM1 := Lib.hid him; have HG2 := Lib.hid hg2; have HOC1 := Lib.hid (show ∀ k q, M1 k = some q → occ t k from fun k q h => (hoc k q h).elim (fun h => by cases h) id); have HOK1 := Lib.hid hok1; have HBX9 := Lib.hid hbx9; have HTY9 := Lib.hid hty9
    have HB9 := Lib.hid (HB08.out.trans (hk.below (m := w.heap.size) (by omega) (fun k h => by omega)))
    have HZ9 := Lib.hid (show W8.heap.size ≤ w9.heap.size from hk.size)
    clear hmade h67 hg1 hz6 hs8 hsz hbu9 htu9 hg2 hsv hC hbd hmp hgr him hk hg hct hoc hok1 hnm hbx9 hty9
    go_wp2_with fail
    refine HM2.out.mono ?_
    clear HM2 d0 d1 d2
    rintro e w10 ⟨g3, cap3, p2, nm2, C2, H2, M2, rfl, hsv, hC, hbd, hmp, -, hgr, him, hk, hg, hct, hoc⟩
    have h67 := H67.out; have hg1 := HG1.out; have hz6 := HZ6.out; have hs8 := HS8.out; have hsz := HSZ.out; have hg2 := HG2.out; have hz9 := HZ9.out; have hc1 := HC1.out; have hgs := S9.out.far
    have hg3 : g3 < w7.heap.size ∨ w7.heap.size + 1 ≤ g3 := by rcases hg with h | h <;> omega
    have hbx10 := hk.heap HBX9.out (by omega) (by omega)
    have hty10 : TyAt (LT w.heap.size) w10 t a cap := ty_same (fun k hk9 => hk.block k (by have : k < w.heap.size := hk9; omega) (by have : k < w.heap.size := hk9; omega)) (fun _ h => h) HTY9.out
    have hm2 : ∀ d ∈ H2, d.c.met ≤ 0 := fun d hd => by
      obtain ⟨N1, e1, q1⟩ := HGR1.out.nodes
      obtain ⟨N2, e2, q2⟩ := hgr.nodes
      rw [e2, e1] at hd
      rcases List.mem_append.1 hd with hd | hd
      · rcases List.mem_append.1 hd with hd | hd
        · exact (show ∀ d ∈ lvs 5, d.c.met ≤ 0 by decide) d hd
        · rw [(q1 d hd).1]; exact Int.le_refl _
      · rw [(q2 d hd).1]; exact Int.le_refl _
    have hki2 : ∀ d ∈ H2, I64 d.c.kind := fun d hd => by
      obtain ⟨N1, e1, q1⟩ := HGR1.out.nodes
      obtain ⟨N2, e2, q2⟩ := hgr.nodes
      rw [e2, e1] at hd
      rcases List.mem_append.1 hd with hd | hd
      · rcases List.mem_append.1 hd with hd | hd
        · obtain ⟨i, hi⟩ := List.mem_iff_getElem?.1 hd
          obtain ⟨d', h1, _, h3⟩ := lv_five i (by have := (List.getElem?_eq_some_iff.1 hi).1; simpa [lvs] using this)
          rw [hi] at h1; injection h1 with h1; rw [h1, h3]; unfold I64; have := (List.getElem?_eq_some_iff.1 hi).1; have h9 : (lvs 5).length = 5 := by simp [lvs]
          omega
        · exact (q1 d hd).2
      · exact (q2 d hd).2
    have hc12 := Car.of_grow hgr
    have him1 := HIM1.out.carry hc12
    have hva := vars12_any hsv hm2 ⟨by decide, by decide⟩ him1.den (by rw [ren_size]; omega)
    have hlen := (vars_len_same HIM1.out HOK1.out hc12 HOC1.out).1.trans (vars_many HGR1.out HIM1.out HOC1.out)
    have hin : ∀ i, i ∈ varsOf H2 (trav H2 (ren M1 t) p1 []) ↔ ∃ k, M1 k = some i := vars_of_im him1 (HOK1.out.carry hc12) HOC1.out
    have hns : (varsOf H2 (trav H2 (ren M1 t) p1 [])).length ≤ 600 := by
      have q1 : (varsOf H2 (trav H2 (ren M1 t) p1 [])).length ≤ (trav H2 (ren M1 t) p1 []).length := List.length_filter_le _ _
      have q2 := trav_len (H := H2) (ren M1 t) p1 []
      rw [ren_size] at q2; simp only [List.length_nil] at q2; omega
    obtain ⟨V1, hV1⟩ : ∃ x, varsOf H2 (trav H2 (ren M1 t) p1 []) = x := ⟨_, rfl⟩
    rw [hV1] at hva hlen hin hns
    obtain ⟨N, hN⟩ : ∃ N, (Tp.vars t []).length = N := ⟨_, rfl⟩
    rw [hN] at hlen
    rw [hlen] at hns
    have HNS := Lib.hid hns
    have HVA := Lib.hid hva; have HLEN := Lib.hid hlen; have HIN := Lib.hid hin; have HN := Lib.hid hN
    have S10 := Lib.hid hsv; have HC2 := Lib.hid (show C2 ≤ 600 by omega); have HBD2 := Lib.hid hbd; have HGR2 := Lib.hid hgr; have HIM2 := Lib.hid him; have HG3 := Lib.hid hg3; have HM2' := Lib.hid hm2; have HKI2 := Lib.hid hki2; have HBX10 := Lib.hid hbx10; have HTY10 := Lib.hid hty10; have HLV2 := Lib.hid (hgr.lv (HGR1.out.lv lv_five)); have HOK2 := Lib.hid (hgr.ok HOK1.out)
    have HB10 := Lib.hid (HB9.out.trans (hk.below (m := w.heap.size) (by omega) (fun k h => by omega)))
    have HZ10 := Lib.hid (Nat.le_trans hz9 hk.size)
    clear hva hlen hin hV1 hN hns him1 hc12 h67 hg1 hz6 hs8 hsz hg2 hz9 hc1 hgs hg3 hsv hC hbd hmp hgr him hk hg hct hoc hm2 hki2 hbx10 hty10
    go_wp2_with fail
    refine HVA.out.mono ?_
    clear HVA
    rintro e w11 ⟨v, H3, rfl, hown, hsv, hal, hmt, hk⟩
    obtain ⟨va, vc, rfl, hna, hvb⟩ := nats_own hown
    rw [HLEN.out]
    have h67 := H67.out; have hg1 := HG1.out; have hz6 := HZ6.out; have hs8 := HS8.out; have hg3 := HG3.out; have hz10 := HZ10.out; have hf10 := S10.out.far
    have hbx11 := hk.heap HBX10.out (by omega) (by omega)
    have hty11 : TyAt (LT w.heap.size) w11 t a cap := ty_same (fun k hk9 => hk.block k (by have : k < w.heap.size := hk9; omega) (by have : k < w.heap.size := hk9; omega)) (fun _ h => h) HTY10.out
    have S11 := Lib.hid hsv; have HAL3 := Lib.hid hal; have HM3 := Lib.hid hmt; have HNA := Lib.hid hna; have HVB := Lib.hid hvb
    have HB11 := Lib.hid (HB10.out.trans (hk.below (m := w.heap.size) (by omega) (fun k h => by omega))); have HZ11 := Lib.hid (Nat.le_trans hz10 hk.size)
    have c0 : w11.cell? ⟨w.heap.size, 0, none⟩ = some (.int .i64 k0) := cell_box hbx11 rfl rfl
    have c1 : w11.cell? ⟨w.heap.size, 1, none⟩ = some (.int .i64 n0) := cell_box hbx11 rfl rfl
    have c2 : w11.cell? ⟨w.heap.size, 2, none⟩ = some (.slice a m0 cap) := cell_box hbx11 rfl rfl
    have hrv := rvarsall_any t a cap w11 (by have := HSZ.out; omega) (hty11.below (Below.refl _ _) (fun k hk => Nat.lt_of_lt_of_le hk HB11.out.size) (fun k hk => Nat.lt_of_lt_of_le hk HB11.out.size))
    rw [tv_of HV.out] at hrv
    have HRV := Lib.hid hrv
    clear hrv h67 hg1 hz6 hs8 hg3 hz10 hf10 hbx11 hty11 hown hsv hal hmt hna hvb hk
    by_cases hN0 : N = 0
    · have hNb : ((N : Int) == 0) = true := by simp [hN0]
      have hla : ∀ W, SV w6.heap.size w6.heap.size g3 cap3 65536 C2 (0 + 1) W H3 → Calls Try.prog 36 #[.pointer (some ⟨w6.heap.size, 0, none⟩), .int .i64 (p1 : Int), .int .i64 (p2 : Int)] W fun e w' => e = .returned (.int .i64 1) ∧ SV w6.heap.size w6.heap.size g3 cap3 65536 C2 (0 + 1) w' H3 ∧ Kp W.heap.size (fun k => k = g3) W w' := fun W hS => by
        obtain ⟨tk, tn, tl⟩ := t
        obtain ⟨d, q1, q2, q3, _⟩ := HIM1.out.carry (Car.of_grow HGR2.out)
        obtain ⟨e, h1, h2, h3, _⟩ := HAL3.out.get q1
        have hk6 := vars_kind (HN.out.trans hN0)
        exact link12_arg hS h1 (rp := e) (by rw [h2, q2]; exact h1) (q := p2) (by rw [← HAL3.out.len]; exact HIM2.out.lt) (by rw [h3, q3]; exact hk6)
      have HLA := Lib.hid hla
      clear hla hN0
      go_wp2_with (go_at_call 35; refine HRV.out.mono ?_; clear c0 c1 c2; rintro e w12 ⟨vv, rfl, hown, hb⟩; obtain ⟨vva, vvc, rfl⟩ := own_shapeT hown; rw [HN.out]; have HB12 := Lib.hid hb; clear hown hb)
      refine (HLA.out w12 (S11.out.below HB12.out)).mono ?_
      rintro e w13 ⟨rfl, hsv, hk⟩
      have HB13 := Lib.hid ((HB11.out.tr HB12.out (Nat.le_refl _)).trans (hk.below (m := w.heap.size) (by have := HB11.out.size; have := HB12.out.size; omega) (fun k h => by have := S10.out.far; have := HG3.out; have := H67.out; have := HZ6.out; omega)))
      clear hsv hk HLA
      go_wp2_with fail
      refine (wakes12_any w13).mono ?_
      rintro e w14 ⟨rfl, hb⟩
      have HB14 := Lib.hid (HB13.out.tr hb (Nat.le_refl _))
      clear hb
      go_wp2_with fail
      go_ret
      exact ⟨rfl, HB14.out⟩
    · have hNb : ((N : Int) == 0) = false := by simp; omega
      have HN0 := Lib.hid hN0
      clear hN0
      go_wp2_with (go_at_call 35; refine HRV.out.mono ?_; clear c0 c1 c2; rintro e w12 ⟨vv, rfl, hown, hb⟩; obtain ⟨vva, vvc, rfl⟩ := own_shapeT hown; rw [HN.out]; have HB12 := Lib.hid hb; clear hown hb)
      obtain ⟨k, hkN, hik⟩ := intn_any x N (by have := HN0.out; omega) (by have := HNS.out; omega) w12
      have hkl : k < V1.length := by rw [HLEN.out]; exact hkN
      obtain ⟨bq, rfl, hcq⟩ := HNA.out k hkl
      obtain ⟨q1, q2⟩ := HVB.out bq 0 rfl
      obtain ⟨i, hi⟩ : ∃ i, V1[k] = i := ⟨_, rfl⟩
      rw [hi] at hcq
      have hcr : w12.cell? ⟨bq, k, none⟩ = some (.int .i64 (i : Int)) := (World.cell?_of_block (a := ⟨bq, k, none⟩) (HB12.out.block bq q2)).trans hcq
      obtain ⟨ky, hky⟩ := (HIN.out i).1 (by rw [← hi]; exact List.getElem_mem hkl)
      obtain ⟨d1, e1, e2, e3⟩ := HOK1.out ky i hky
      obtain ⟨d3, h1, h2, h3, _⟩ := HAL3.out.get (HGR2.out.get e1)
      rw [e2] at h2
      rw [e3] at h3
      have hden3 : Den H3 (ren M2 u) p2 := (HIM2.out.den).alk HAL3.out
      have hwn := within12_any (S11.out.below HB12.out) HM3.out ⟨by decide, by decide⟩ h1 hden3
      rw [h2] at hwn
      obtain ⟨wb, hwb⟩ : ∃ b, decide (i ∈ trav H3 (ren M2 u) p2 []) = b := ⟨_, rfl⟩
      rw [hwb] at hwn
      obtain ⟨i1, i2⟩ := pt_int hkN
      have HIK := Lib.hid hik; have HWN := Lib.hid hwn; have HWB := Lib.hid hwb; have HD3 := Lib.hid h1; have HU3 := Lib.hid h2; have HK3 := Lib.hid h3; have HDEN3 := Lib.hid hden3
      clear hik hkN hkl hcq q1 q2 hi hky e1 e2 e3 h1 h2 h3 hden3 hwn hwb
      refine HIK.out.mono ?_
      rintro e wx ⟨rfl, hw⟩
      rw [hw]; clear hw wx
      go_wp2_with fail
      refine HWN.out.mono ?_
      clear HWN HIK hcr
      rintro e w13 ⟨rfl, H4, hsv, hal, hmt, hk⟩
      obtain ⟨dm, hm1, hm2⟩ : ∃ d : SNd, H4[p2]? = some d ∧ d.up = p2 := by
        obtain ⟨uk, un, ul⟩ := u
        obtain ⟨d, q1, q2, q3, _⟩ := HIM2.out
        obtain ⟨e, h1, h2, _⟩ := (HAL3.out.trans hal).get q1
        exact ⟨e, h1, h2.trans q2⟩
      obtain ⟨d4, hd4, hu4, hk4, _⟩ := hal.get HD3.out
      rw [HU3.out] at hu4
      rw [HK3.out] at hk4
      have hrt := root12_any hsv hm1
      rw [hm2] at hrt
      have hden4 : Den H4 (ren M2 u) p2 := HDEN3.out.alk hal
      have hwb := HWB.out
      rw [trav_alk hal] at hwb
      have h10 := S10.out.far; have h67 := H67.out; have hg3 := HG3.out; have hz6 := HZ6.out; have hz11 := HZ11.out; have hs8 := HS8.out
      have hb13 := (HB11.out.tr HB12.out (Nat.le_refl _)).trans (hk.below (m := w.heap.size) (by have := HB11.out.size; have := HB12.out.size; omega) (fun k h => by omega))
      have HRT := Lib.hid hrt; have HB13 := Lib.hid hb13; have HDM := Lib.hid hm1; have HDMU := Lib.hid hm2; have HD4 := Lib.hid hd4; have HU4 := Lib.hid hu4; have HK4 := Lib.hid hk4; have HDEN4 := Lib.hid hden4; have HWB4 := Lib.hid hwb; have S13 := Lib.hid hsv; have HM4 := Lib.hid hmt; have HAL4 := Lib.hid hal
      have HZ13 := Lib.hid (show w7.heap.size + 1 ≤ w13.heap.size by have := HB12.out.size; have := hk.size; omega)
      clear hrt hb13 hm1 hm2 hd4 hu4 hk4 hden4 hwb hsv hmt hal hk h10 h67 hg3 hz6 hz11 hs8 HWB HDEN3 HK3 HD3 HU3
      go_wp2_with fail
      refine HRT.out.mono ?_
      rintro e w14 ⟨rfl, hsv, hk⟩
      have hlk := link12_any hsv HM4.out ⟨by decide, by decide⟩ (p := i) (q := p2) HD4.out (rp := d4) (by rw [HU4.out]; exact HD4.out) HDM.out HDEN4.out (by rw [ren_size]; have := HSZ.out; omega)
      rw [HU4.out, HDMU.out, HK4.out] at hlk
      have h10 := S10.out.far; have h67 := H67.out; have hg3 := HG3.out; have hz6 := HZ6.out; have hz13 := HZ13.out
      have S14 := Lib.hid hsv; have HLK := Lib.hid hlk
      have HB14 := Lib.hid (HB13.out.trans (hk.below (m := w.heap.size) (by omega) (fun k h => by omega)))
      have HZ14 := Lib.hid (Nat.le_trans hz13 hk.size)
      have hvs : i ∈ varsOf H4 (trav H4 (ren M2 u) p2 []) ↔ wb = true := by
        unfold varsOf
        rw [List.mem_filter, isV_of HD4.out, HK4.out, ← HWB4.out]
        simp
      obtain ⟨vs, hvsd⟩ : ∃ x, varsOf H4 (trav H4 (ren M2 u) p2 []) = x := ⟨_, rfl⟩
      rw [hvsd] at hvs hlk
      have HLK := Lib.hid hlk; have HVS := Lib.hid hvs
      clear hsv hlk hk h10 h67 hg3 hz6 hz13 hvs hvsd
      by_cases hsame : i = p2
      · have hsb : ((p2 : Int) == (i : Int)) = true := by simp [hsame]
        have hwbt : wb = true := by
          rw [← HWB4.out, decide_eq_true_eq, hsame]
          have := Sg.trav_mem (H := H4) (ren M2 u) p2 []
          rwa [rootOf_some HDM.out, HDMU.out] at this
        have HSAME := Lib.hid hsame
        subst hwbt
        clear hsame
        go_wp2_with fail
        refine HLK.out.mono ?_
        clear HLK
        intro e w15 h
        unfold LkP at h
        rw [if_pos (.inr HSAME.out)] at h
        obtain ⟨hk, rfl, hsv⟩ := h
        have h10 := S10.out.far; have h67 := H67.out; have hg3 := HG3.out; have hz6 := HZ6.out; have hz14 := HZ14.out
        have HB15 := Lib.hid (HB14.out.trans (hk.below (m := w.heap.size) (by omega) (fun k h => by omega)))
        have HZ15 := Lib.hid (Nat.le_trans hz14 hk.size)
        clear hk hsv h10 h67 hg3 hz6 hz14
        go_wp2_with fail
        refine (wakes12_any w15).mono ?_
        rintro e wz ⟨rfl, hb⟩
        have HBZ := Lib.hid (HB15.out.tr hb (Nat.le_refl _))
        clear hb
        go_wp2_with fail
        go_ret
        exact ⟨rfl, HBZ.out⟩
      · have hsb : ((p2 : Int) == (i : Int)) = false := by simp; omega
        have HSAME := Lib.hid hsame
        clear hsame
        go_wp2_with fail
        refine HLK.out.mono ?_
        clear HLK
        intro e w15 h
        unfold LkP at h
        rw [if_neg (by rintro (h | h); exact h rfl; exact HSAME.out h)] at h
        obtain ⟨hk, H5, ha5, hm5, h⟩ := h
        have h10 := S10.out.far; have h67 := H67.out; have hg3 := HG3.out; have hz6 := HZ6.out; have hz14 := HZ14.out
        have HB15 := Lib.hid (HB14.out.trans (hk.below (m := w.heap.size) (by omega) (fun k h => by omega)))
        have HZ15 := Lib.hid (Nat.le_trans hz14 hk.size)
        clear hk h10 h67 hg3 hz6 hz14
        by_cases hwbt : wb = true
        · rw [if_pos (HVS.out.2 hwbt)] at h
          obtain ⟨rfl, hsv⟩ := h
          subst hwbt
          obtain ⟨d5, hd5, hu5, _⟩ := ha5.get HD4.out
          rw [HU4.out] at hu5
          have hrt := root12_any hsv hd5
          rw [hu5] at hrt
          have HRT5 := Lib.hid hrt; have S15 := Lib.hid hsv
          have hii : ((i : Int) == (i : Int)) = true := by simp
          clear hrt hsv hd5 hu5 ha5 hm5
          go_wp2_with fail
          refine HRT5.out.mono ?_
          rintro e w16 ⟨rfl, hsv, hk⟩
          have HB16 := Lib.hid (HB15.out.trans (hk.below (m := w.heap.size) (by have := HB15.out.size; omega) (fun k h => by have := S10.out.far; have := HG3.out; have := H67.out; have := HZ6.out; omega)))
          clear hsv hk
          go_wp2_with fail
          refine (wakes12_any w16).mono ?_
          rintro e wz ⟨rfl, hb⟩
          have HBZ := Lib.hid (HB16.out.tr hb (Nat.le_refl _))
          clear hb
          go_wp2_with fail
          go_ret
          exact ⟨rfl, HBZ.out⟩
        · rw [if_neg (fun h => hwbt (HVS.out.1 h))] at h
          obtain ⟨rfl, hsv⟩ := h
          have hwf : wb = false := by cases wb <;> simp_all
          subst hwf
          have hno : ¬ i ∈ trav H4 (ren M2 u) p2 [] := of_decide_eq_false HWB4.out
          have him4 : Im H4 M2 u p2 := HIM2.out.carry (Car.of_alk (HAL3.out.trans HAL4.out))
          have hden6 : Den (Sg.link (lows H5 vs d4.c.level) i p2) (ren M2 u) p2 := Den.linked ha5 (trav_clo him4 (fun _ h => by cases h)) hno HDEN4.out (Sg.trav_mem _ _ _)
          obtain ⟨e6, he6, hu6⟩ := link_turn ha5 vs d4.c.level (q := p2) HD4.out HU4.out
          obtain ⟨f6, hf6, hfu6, hfk6⟩ := link_keep ha5 vs d4.c.level (v := i) (q := p2) HDM.out (by rw [HDMU.out]; exact fun h => HSAME.out h.symm)
          rw [HDMU.out] at hfu6
          obtain ⟨l4, hl4, hlu4, hlk4⟩ : ∃ d : SNd, H4[4]? = some d ∧ d.up = 4 ∧ d.c.kind = 5 := by
            obtain ⟨d, q1, q2, q3⟩ := HLV2.out 4 (by omega)
            obtain ⟨e, h1, h2, h3, _⟩ := (HAL3.out.trans HAL4.out).get q1
            exact ⟨e, h1, h2.trans q2, h3.trans q3⟩
          have hi4 : i ≠ 4 := fun e => by
            have h9 := HD4.out; rw [e, hl4] at h9; injection h9 with h9
            have h8 := HK4.out; rw [← h9, hlk4] at h8; exact absurd h8 (by decide)
          obtain ⟨n4, hn4, hnu4, hnk4⟩ := link_keep ha5 vs d4.c.level (v := i) (q := p2) hl4 (by rw [hlu4]; exact fun h => hi4 h.symm)
          rw [hlu4] at hnu4
          rw [hlk4] at hnk4
          have hki6 := kinds_link ha5 vs d4.c.level i p2 (Alk.kinds (HAL3.out.trans HAL4.out) HKI2.out)
          have hm6 : ∀ d ∈ Sg.link (lows H5 vs d4.c.level) i p2, d.c.met ≤ 3 := Sg.link_met (lows_met hm5 _ _)
          have hl6 : (Sg.link (lows H5 vs d4.c.level) i p2).length = H2.length := by rw [Sg.link_len, lows_len, ← ha5.len, ← HAL4.out.len, ← HAL3.out.len]
          have hkd6 : f6.c.kind = u.kind := by
            rw [hfk6]
            obtain ⟨uk, un, ul⟩ := u
            obtain ⟨d, q1, q2, q3, _⟩ := him4
            have h9 := HDM.out; rw [q1] at h9; injection h9 with h9
            rw [← h9]; exact q3
          obtain ⟨H6, hH6⟩ : ∃ X, Sg.link (lows H5 vs d4.c.level) i p2 = X := ⟨_, rfl⟩
          rw [hH6] at hsv hden6 he6 hf6 hn4 hki6 hm6 hl6
          have hsv : SV w6.heap.size w6.heap.size g3 cap3 65536 C2 3 w15 H6 := hsv
          have hdv6 : Den H6 (ren M2 u) i := Den.of_root hden6 he6 (by rw [rootOf_some hf6, hfu6]; exact hu6)
          obtain ⟨z, hz⟩ : ∃ z, ren M2 u = z := ⟨_, rfl⟩
          have hzs : Tp.size z ≤ 600 := by rw [← hz, ren_size]; have := HSZ.out; omega
          rw [hz] at hden6 hdv6
          obtain ⟨zk, zn, zm, hzv⟩ := TV.mk z
          have hrd := read12_any hsv hm6 ⟨by decide, by decide⟩ (HBD2.out.len hl6) hdv6 (by omega) hki6
          have HRD := Lib.hid hrd; have S15 := Lib.hid hsv; have HDEN6 := Lib.hid hden6; have HDV6 := Lib.hid hdv6; have HE6 := Lib.hid he6; have HU6 := Lib.hid hu6; have HF6 := Lib.hid hf6; have HFU6 := Lib.hid hfu6; have HN4 := Lib.hid hn4; have HNU4 := Lib.hid hnu4; have HNK4 := Lib.hid hnk4; have HKI6 := Lib.hid hki6; have HL6 := Lib.hid hl6; have HKD6 := Lib.hid hkd6; have HZS := Lib.hid hzs; have HZV := Lib.hid hzv
          clear hrd hsv hden6 hdv6 he6 hu6 hf6 hfu6 hn4 hnu4 hnk4 hki6 hm6 hl6 hkd6 hzs hzv hz hH6 hi4 hl4 hlu4 hlk4 him4 hno hfk6 ha5 hm5 hwbt
          go_wp2_with fail
          refine HRD.out.mono ?_
          clear HRD
          rintro e w16 ⟨hk, H7, ha7, hm7, h⟩
          rw [if_pos (by have := HC2.out; have := HZS.out; omega)] at h
          obtain ⟨⟨a7, c7, rfl, hty⟩, hsv⟩ := h
          rw [tv_of HZV.out]
          have hsv : SV w6.heap.size w6.heap.size g3 cap3 65536 (C2 + (Tp.size z : Int)) 4 w16 H7 := hsv
          have h10 := S10.out.far; have h67 := H67.out; have hg3 := HG3.out; have hz6 := HZ6.out; have hz15 := HZ15.out; have hf15 := S15.out.far
          have HB16 := Lib.hid (HB15.out.trans (hk.below (m := w.heap.size) (by omega) (fun k h => by omega)))
          have hz16 := Nat.le_trans hz15 hk.size
          have HZA := Lib.hid (show w15.heap.size ≤ w16.heap.size from hk.size)
          have S16 := Lib.hid hsv; have HAL7 := Lib.hid ha7; have HM7 := Lib.hid hm7; have HT7 := Lib.hid hty; have HZ16 := Lib.hid hz16; have HF15 := Lib.hid hf15
          clear hk hsv ha7 hm7 hty h10 h67 hg3 hz6 hz15 hf15 hz16
          go_upto_region 22 with fail
          obtain ⟨W7, hW7⟩ : ∃ W, w16.alloc (.cells #[.int .i64 zk, .int .i64 zn, .slice a7 zm c7] 26) = W := ⟨_, rfl⟩
          rw [hW7]
          have hb7 : Below w16.heap.size w16 W7 := by rw [← hW7]; exact (Below.refl _ _).alloc (Nat.le_refl _) _
          have hx7 : W7.heap[w16.heap.size]? = some (.cells #[.int .i64 zk, .int .i64 zn, .slice a7 zm c7] 26) := by rw [← hW7]; exact World.alloc_heap_new _ _
          have hz7 : W7.heap.size = w16.heap.size + 1 := by rw [← hW7, World.size_alloc]
          have hrd := read12_any (S16.out.below hb7) HM7.out ⟨by decide, by decide⟩ ⟨by have := HBD2.out.c0; omega, by have := HC2.out; have := HZS.out; omega, by decide, by rw [← HAL7.out.len, HL6.out]; have := HBD2.out.n; omega⟩ (HDEN6.out.alk HAL7.out) (by have := HZS.out; omega) (Alk.kinds HAL7.out HKI6.out)
          have hty7 : TyAt (fun k => w15.heap.size ≤ k ∧ k < w16.heap.size) W7 z a7 c7 := ty_same (fun k hk => hb7.block k hk.2) (fun _ h => h) HT7.out
          have HRD := Lib.hid hrd; have S17 := Lib.hid (S16.out.below hb7); have HX7 := Lib.hid hx7; have HZ7 := Lib.hid hz7; have HTY7 := Lib.hid hty7
          have HB17 := Lib.hid (HB16.out.tr hb7 (Nat.le_refl _))
          have HW7 := Lib.hid hW7
          clear hW7 hb7 hx7 hz7 hrd hty7
          go_wp2_with fail
          refine HRD.out.mono ?_
          clear HRD
          rintro e w18 ⟨hk, H8, ha8, hm8, h⟩
          rw [if_pos (by have := HC2.out; have := HZS.out; omega)] at h
          obtain ⟨⟨a8, c8, rfl, hty⟩, hsv⟩ := h
          rw [tv_of HZV.out]
          have hsv : SV w6.heap.size w6.heap.size g3 cap3 65536 (C2 + (Tp.size z : Int) + (Tp.size z : Int)) 5 w18 H8 := hsv
          have h10 := S10.out.far; have h67 := H67.out; have hg3 := HG3.out; have hz6 := HZ6.out; have hz16 := HZ16.out; have hf15 := HF15.out; have hf16 := S16.out.far; have hz7 := HZ7.out
          have HB18 := Lib.hid (HB17.out.trans (hk.below (m := w.heap.size) (by omega) (fun k h => by omega)))
          have hx8 := hk.heap HX7.out (by omega) (by omega)
          have hty7 : TyAt (fun k => w15.heap.size ≤ k ∧ k < w18.heap.size) w18 z a7 c7 := ty_same (fun k hk' => hk.block k (by have := hk'.2; omega) (by have := hk'.1; have := hk'.2; omega)) (fun k hk' => ⟨hk'.1, by have := hk.size; have := hk'.2; omega⟩) HTY7.out
          have S18 := Lib.hid hsv; have HAL8 := Lib.hid ha8; have HM8 := Lib.hid hm8; have HT8 := Lib.hid hty; have HX8 := Lib.hid hx8; have HTY7' := Lib.hid hty7; have HZ18 := Lib.hid (show W7.heap.size ≤ w18.heap.size from hk.size)
          clear hk hsv ha8 hm8 hty hx8 hty7 h10 h67 hg3 hz6 hz16 hf15 hf16 hz7 HTY7 HX7
          go_upto_region 23 with fail
          obtain ⟨W8, hW8⟩ : ∃ W, w18.alloc (.cells #[.int .i64 zk, .int .i64 zn, .slice a8 zm c8] 26) = W := ⟨_, rfl⟩
          rw [hW8]
          have hb8 : Below w18.heap.size w18 W8 := by rw [← hW8]; exact (Below.refl _ _).alloc (Nat.le_refl _) _
          have hx9 : W8.heap[w18.heap.size]? = some (.cells #[.int .i64 zk, .int .i64 zn, .slice a8 zm c8] 26) := by rw [← hW8]; exact World.alloc_heap_new _ _
          have hz8 : W8.heap.size = w18.heap.size + 1 := by rw [← hW8, World.size_alloc]
          have hx8 : W8.heap[w16.heap.size]? = some (.cells #[.int .i64 zk, .int .i64 zn, .slice a7 zm c7] 26) := (hb8.block _ (by have := HZ18.out; have := HZ7.out; omega)).trans HX8.out
          have hS8 := S18.out.below hb8
          obtain ⟨e8, he8, hu8, _⟩ := (HAL7.out.trans HAL8.out).get HE6.out
          obtain ⟨f8, hf8, hfu8, hfk8, _⟩ := (HAL7.out.trans HAL8.out).get HF6.out
          obtain ⟨n8, hn8, hnu8, hnk8, hnl8, hna8, hnb8⟩ := (HAL7.out.trans HAL8.out).get HN4.out
          rw [HU6.out] at hu8
          rw [HFU6.out] at hfu8
          rw [HKD6.out] at hfk8
          rw [HNU4.out] at hnu8
          rw [HNK4.out] at hnk8
          have hrt := fun W (hS : SV w6.heap.size w6.heap.size g3 cap3 65536 (C2 + (Tp.size z : Int) + (Tp.size z : Int)) 5 W H8) => root12_any hS he8
          have hrt2 := fun W (hS : SV w6.heap.size w6.heap.size g3 cap3 65536 (C2 + (Tp.size z : Int) + (Tp.size z : Int)) 5 W H8) => root12_any hS hf8
          have hkd := fun W (hS : SV w6.heap.size w6.heap.size g3 cap3 65536 (C2 + (Tp.size z : Int) + (Tp.size z : Int)) 5 W H8) => kind12_any hS he8 (r := f8) (by rw [hu8]; exact hf8)
          simp only [hu8] at hrt
          simp only [hfu8] at hrt2
          simp only [hfk8] at hkd
          have hden4 : Den H8 (.mk 5 0 []) 4 := ⟨n8, n8, hn8, by rw [hnu8]; exact hn8, by rw [hnu8], hnk8, by rw [if_neg (by decide)], by rw [hnk8]; rfl⟩
          have hst := fun W (hS : SV w6.heap.size w6.heap.size g3 cap3 65536 (C2 + (Tp.size z : Int) + (Tp.size z : Int)) 5 W H8) => static12_any hS HM8.out ⟨by decide, by decide⟩ hn8 hden4
          rw [hnu8, show decide (4 ∈ trav H8 (.mk 5 0 []) 4 []) = true by (have h9 := Sg.trav_mem (H := H8) (.mk 5 0 []) 4 []; rw [rootOf_some hn8, hnu8] at h9; exact decide_eq_true h9)] at hst
          have hp1 : p1 < H8.length := by rw [← HAL8.out.len, ← HAL7.out.len, HL6.out]; exact (HIM1.out.carry (Car.of_grow HGR2.out)).lt
          have hla := fun W (hS : SV w6.heap.size w6.heap.size g3 cap3 65536 (C2 + (Tp.size z : Int) + (Tp.size z : Int)) 5 W H8) (h6 : u.kind ≠ 6) => link12_arg hS he8 (rp := f8) (by rw [hu8]; exact hf8) hp1 (by rw [hfk8]; exact h6)
          have hpp : ((p2 : Int) == (p2 : Int)) = true := by simp
          have HRT8 := Lib.hid hrt; have HRT9 := Lib.hid hrt2; have HKD8 := Lib.hid hkd; have HST8 := Lib.hid hst; have HLA8 := Lib.hid hla; have S19 := Lib.hid hS8; have HX8' := Lib.hid hx8; have HX9 := Lib.hid hx9; have HZ8 := Lib.hid hz8; have HB19 := Lib.hid (HB18.out.tr hb8 (Nat.le_refl _))
          have HT7' := Lib.hid (show TyAt (fun k => w15.heap.size ≤ k ∧ k < w18.heap.size) W8 z a7 c7 from ty_same (fun k hk => hb8.block k hk.2) (fun _ h => h) HTY7'.out)
          have HT8' := Lib.hid (show TyAt (fun k => W7.heap.size ≤ k ∧ k < w18.heap.size) W8 z a8 c8 from ty_same (fun k hk => hb8.block k hk.2) (fun _ h => h) HT8.out)
          have HW8 := Lib.hid hW8
          have HG15 := Lib.hid (show g3 < w15.heap.size ∧ w6.heap.size < w15.heap.size from ⟨HF15.out.2.1, HF15.out.2.2.1⟩)
          have HZ79 := Lib.hid (show w15.heap.size ≤ w16.heap.size ∧ w16.heap.size < W7.heap.size ∧ W7.heap.size ≤ w18.heap.size ∧ w18.heap.size < W8.heap.size by have := HZ18.out; have := HZ7.out; have := HZA.out; have := HZ8.out; omega)
          clear hW8 hb8 hx9 hz8 hx8 hS8 he8 hu8 hf8 hfu8 hfk8 hn8 hnu8 hnk8 hnl8 hna8 hnb8 hrt hrt2 hkd hden4 hst hp1 hla
          go_wp2_with fail
          refine (HRT8.out _ S19.out).mono ?_
          rintro e w19 ⟨rfl, hsv, hk⟩
          have S20 := Lib.hid hsv; have K19 := Lib.hid hk
          clear hsv hk
          go_wp2_with fail
          refine (HRT9.out _ S20.out).mono ?_
          rintro e w20 ⟨rfl, hsv, hk⟩
          have S21 := Lib.hid hsv; have K20 := Lib.hid (K19.out.trans (hk.mono K19.out.size (fun _ _ h => h)))
          have hg15 := HG15.out; have hz79 := HZ79.out
          have hx20 := K20.out.heap HX8'.out (by omega) (by omega)
          have hy20 := K20.out.heap HX9.out (by omega) (by omega)
          have c0 : w20.cell? ⟨w16.heap.size, 0, none⟩ = some (.int .i64 zk) := cell_box hx20 rfl rfl
          have c1 : w20.cell? ⟨w16.heap.size, 1, none⟩ = some (.int .i64 zn) := cell_box hx20 rfl rfl
          have c2 : w20.cell? ⟨w16.heap.size, 2, none⟩ = some (.slice a7 zm c7) := cell_box hx20 rfl rfl
          have d0 : w20.cell? ⟨w18.heap.size, 0, none⟩ = some (.int .i64 zk) := cell_box hy20 rfl rfl
          have d1 : w20.cell? ⟨w18.heap.size, 1, none⟩ = some (.int .i64 zn) := cell_box hy20 rfl rfl
          have d2 : w20.cell? ⟨w18.heap.size, 2, none⟩ = some (.slice a8 zm c8) := cell_box hy20 rfl rfl
          have ht7 : TyAt (LT w20.heap.size) w20 z a7 c7 := ty_same (fun k hk => K20.out.block k (by have := hk.2; omega) (by have := hk.1; omega)) (fun k hk => (by have := hk.2; have := K20.out.size; show k < w20.heap.size; omega)) HT7'.out
          have ht8 : TyAt (LT w20.heap.size) w20 z a8 c8 := ty_same (fun k hk => K20.out.block k (by have := hk.2; omega) (by have := hk.1; omega)) (fun k hk => (by have := hk.2; have := K20.out.size; show k < w20.heap.size; omega)) HT8'.out
          have hks := ks_any HZV.out HZV.out ht7 ht8
          rw [Tp.same_refl] at hks
          have HKS := Lib.hid hks
          have HB20 := Lib.hid (HB19.out.trans (K20.out.below (m := w.heap.size) (by have := HB19.out.size; omega) (fun k h => by have := S10.out.far; have := HG3.out; have := H67.out; have := HZ6.out; omega)))
          clear hsv hk hx20 hy20 ht7 ht8 hks hg15 hz79
          by_cases h6 : u.kind = 6
          · have h6b : (u.kind == 6) = true := by simp [h6]
            clear h6
            go_wp2_with (go_at_call 31; refine HKS.out.mono ?_; clear c0 c1 c2 d0 d1 d2; rintro e w21 ⟨rfl, hb⟩; have HB21 := Lib.hid (HB20.out.tr hb (Nat.le_refl _)); have S22 := Lib.hid (S21.out.below hb); clear hb)
            refine (HKD8.out _ S22.out).mono ?_
            rintro e w22 ⟨rfl, hsv, hk⟩
            have HB22 := Lib.hid (HB21.out.trans (hk.below (m := w.heap.size) (by have := HB21.out.size; omega) (fun k h => by have := S10.out.far; have := HG3.out; have := H67.out; have := HZ6.out; omega)))
            have S23 := Lib.hid hsv
            clear hsv hk
            go_wp2_with fail
            refine (HST8.out _ S23.out).mono ?_
            rintro e w24 ⟨rfl, H9, hsv, hal, hmt, hk⟩
            have HB24 := Lib.hid (HB22.out.trans (hk.below (m := w.heap.size) (by have := HB22.out.size; omega) (fun k h => by have := S10.out.far; have := HG3.out; have := H67.out; have := HZ6.out; omega)))
            clear hsv hal hmt hk
            go_wp2_with fail
            refine (wakes12_any w24).mono ?_
            rintro e wz ⟨rfl, hb⟩
            have HBZ := Lib.hid (HB24.out.tr hb (Nat.le_refl _))
            clear hb
            go_wp2_with fail
            go_ret
            exact ⟨rfl, HBZ.out⟩
          · have h6b : (u.kind == 6) = false := by simp [h6]
            have H6 := Lib.hid h6
            clear h6
            go_wp2_with (go_at_call 31; refine HKS.out.mono ?_; clear c0 c1 c2 d0 d1 d2; rintro e w21 ⟨rfl, hb⟩; have HB21 := Lib.hid (HB20.out.tr hb (Nat.le_refl _)); have S22 := Lib.hid (S21.out.below hb); clear hb)
            refine (HKD8.out _ S22.out).mono ?_
            rintro e w22 ⟨rfl, hsv, hk⟩
            have HB22 := Lib.hid (HB21.out.trans (hk.below (m := w.heap.size) (by have := HB21.out.size; omega) (fun k h => by have := S10.out.far; have := HG3.out; have := H67.out; have := HZ6.out; omega)))
            have S23 := Lib.hid hsv
            clear hsv hk
            go_wp2_with fail
            refine (HLA8.out _ S23.out H6.out).mono ?_
            rintro e w23 ⟨rfl, hsv, hk⟩
            have HB23 := Lib.hid (HB22.out.trans (hk.below (m := w.heap.size) (by have := HB22.out.size; omega) (fun k h => by have := S10.out.far; have := HG3.out; have := H67.out; have := HZ6.out; omega)))
            have S24 := Lib.hid hsv
            clear hsv hk
            go_wp2_with fail
            refine (HST8.out _ S24.out).mono ?_
            rintro e w24 ⟨rfl, H9, hsv, hal, hmt, hk⟩
            have HB24 := Lib.hid (HB23.out.trans (hk.below (m := w.heap.size) (by have := HB23.out.size; omega) (fun k h => by have := S10.out.far; have := HG3.out; have := H67.out; have := HZ6.out; omega)))
            clear hsv hal hmt hk
            go_wp2_with fail
            refine (wakes12_any w24).mono ?_
            rintro e wz ⟨rfl, hb⟩
            have HBZ := Lib.hid (HB24.out.tr hb (Nat.le_refl _))
            clear hb
            go_wp2_with fail
            go_ret
            exact ⟨rfl, HBZ.out⟩
end Go.Proofs.Ytaaapdfdedknfaa
