/- StoreLevels: the walk. -/
import Derived.Test.YtnnkhjmfedmajaaSuA
import Derived.Test.YtnnkhjmfedmajaaStY
import Derived.Test.YtnnkhjmfedmajaaTrF
namespace Go.Proofs.Ytnnkhjmfedmajaa
open Go Go.RowKit
open Tp (T)
open Sg (Of Rt Den Dens Alk Mkd trav travs rootOf kidsOf)
set_option maxRecDepth 100000 in
theorem int20_any (x : Int) (w : World) : ∃ k : Nat, k < 20 ∧ Calls Try.prog 26 #[.int .i64 x, .int .i64 20] w fun e w' => e = .returned (.int .i64 (k : Int)) ∧ w' = w := by
  have h : 0 ≤ IntKind.u64.wrap x := by
    simp [IntKind.wrap, IntKind.bits, IntKind.signed]
    omega
  have h3 : 0 ≤ (IntKind.u64.wrap x).tmod 20 ∧ (IntKind.u64.wrap x).tmod 20 < 20 := by
    rw [Int.tmod_eq_emod_of_nonneg h]
    exact ⟨Int.emod_nonneg _ (by omega), Int.emod_lt_of_pos _ (by omega)⟩
  obtain ⟨r, hr⟩ : ∃ r, (IntKind.u64.wrap x).tmod 20 = r := ⟨_, rfl⟩
  rw [hr] at h3
  have h4 : wrap64 r = r := by unfold wrap64; omega
  have h7 : (r.toNat : Int) = r := by omega
  refine ⟨r.toNat, by omega, ?_⟩
  rw [h7]
  clear h
  go_enter Try.func26, Try.ntmps26
  go_wp2_with fail
  go_ret
  exact ⟨rfl, rfl⟩
theorem lows_met {H : List SNd} {K : Int} (h : ∀ d ∈ H, d.c.met ≤ K) (vs : List Nat) (c : Int) : ∀ d ∈ lows H vs c, d.c.met ≤ K := fun d hd => by
  obtain ⟨i, hi⟩ := List.mem_iff_getElem?.1 hd
  have hl := (List.getElem?_eq_some_iff.1 hi).1
  rw [lows_len] at hl
  obtain ⟨d', q1, _, _, _, _, q6, _⟩ := lows_get vs c (List.getElem?_eq_getElem hl)
  rw [hi] at q1; injection q1 with q1
  rw [q1, q6]; exact h _ (List.getElem_mem hl)
theorem NatsAt.keep {w w' : World} {l : List Nat} {a : Option Addr} (h : NatsAt w l a) (hs : ∀ b o, a = some ⟨b, o, none⟩ → w'.heap[b]? = w.heap[b]?) : NatsAt w' l a := fun i hi => by
  obtain ⟨b, rfl, hc⟩ := h i hi
  exact ⟨b, rfl, (World.cell?_of_block (a := ⟨b, i, none⟩) (hs b 0 rfl)).trans hc⟩
theorem lv_five : LvOk (lvs 5) := fun i hi => by
  match i, hi with
  | 0, _ => exact ⟨_, rfl, rfl, rfl⟩
  | 1, _ => exact ⟨_, rfl, rfl, rfl⟩
  | 2, _ => exact ⟨_, rfl, rfl, rfl⟩
  | 3, _ => exact ⟨_, rfl, rfl, rfl⟩
  | 4, _ => exact ⟨_, rfl, rfl, rfl⟩
set_option maxRecDepth 100000 in
set_option maxHeartbeats 8000000 in
theorem llevels12_any (t : T) (a : Option Addr) (cap : Nat) (u : T) (b : Option Addr) (cap' : Nat) (x y z : Int) (w : World) (_ : I64 x) (_ : I64 y) (_ : I64 z) (hty : TyAt (LT w.heap.size) w t a cap) (hty' : TyAt (LT w.heap.size) w u b cap') :
    Calls Try.prog 6 #[tv t a cap, tv u b cap', .int .i64 x, .int .i64 y, .int .i64 z] w fun e w' => e = .returned (.bool true) ∧ Below w.heap.size w w' := by
  obtain ⟨n2, hn2, hi2⟩ := int20_any x (w)
  obtain ⟨k0, n0, m0, hv⟩ := TV.mk t
  obtain ⟨k9, n9, m9, hv'⟩ := TV.mk u
  rw [tv_of hv, tv_of hv']
  clear hi2 hn2 n2
  obtain ⟨W3, hW3⟩ : ∃ W2, (w.alloc (.cells #[.int .i64 k0, .int .i64 n0, .slice a m0 cap] 26)).alloc (.cells #[.int .i64 k9, .int .i64 n9, .slice b m9 cap'] 26) = W2 := ⟨_, rfl⟩
  have hb3 : Below w.heap.size w W3 := by rw [← hW3]; exact ((Below.refl _ _).alloc (Nat.le_refl _) _).alloc (by simp) _
  have hs3 : W3.heap.size = w.heap.size + 2 := by rw [← hW3]; simp
  have bx : BoxT W3 w.heap.size t k0 n0 m0 a cap := ⟨hv, by rw [← hW3]; exact box1 _ _ _ _ _, ty_later hty hb3⟩
  have bu : BoxT W3 (w.heap.size + 1) u k9 n9 m9 b cap' := ⟨hv', by rw [← hW3]; exact box2 _ _ _ _ _, ty_later hty' hb3⟩
  have hhe := heavy_any [t, u] (some ⟨W3.heap.size, 0, none⟩) 2 _ (by simp) (row_two bx.ty bu.ty hv.1 hv.2.1 hv.2.2 hv'.1 hv'.2.1 hv'.2.2)
  obtain ⟨hz, hhz⟩ : ∃ q, decide (600 < Tp.sizes [t, u]) = q := ⟨_, rfl⟩
  rw [hhz] at hhe
  have HHE := Lib.hid hhe; have HHZ := Lib.hid hhz; have HB3 := Lib.hid hb3; have HS3 := Lib.hid hs3; have HW3 := Lib.hid hW3; have BX := Lib.hid bx; have BU := Lib.hid bu; have HTY := Lib.hid hty; have HTY' := Lib.hid hty'; have HV := Lib.hid hv; have HV' := Lib.hid hv'
  clear hhe hhz hb3 hs3 hW3 hty hty' hv hv'
  go_enter Try.func6, Try.ntmps6
  go_upto_region 1 with fail
  rw [HW3.out]
  obtain ⟨c0, c1, c2⟩ := bx.cells
  obtain ⟨d0, d1, d2⟩ := bu.cells
  clear bx bu
  cases hz with
  | true =>
    go_wp2_with (go_at_call 9; refine HHE.out.mono ?_; clear c0 c1 c2 d0 d1 d2; rintro e w4 ⟨rfl, hb⟩; have HB4 := Lib.hid (Go.RowKit.Below.tr ((Below.refl W3.heap.size W3).alloc (Nat.le_refl _) _) hb (Nat.le_refl _)); clear hb)
    go_ret
    exact ⟨rfl, HB3.out.tr HB4.out (Nat.le_refl _)⟩
  | false =>
    go_wp2_with (go_at_call 9; refine HHE.out.mono ?_; clear c0 c1 c2 d0 d1 d2; rintro e w4 ⟨rfl, hb⟩; have HB4 := Lib.hid (Go.RowKit.Below.tr ((Below.refl W3.heap.size W3).alloc (Nat.le_refl _) _) hb (Nat.le_refl _)); have BX4 := Lib.hid (BX.out.later HB4.out); have BU4 := Lib.hid (BU.out.later HB4.out); obtain ⟨c0, c1, c2⟩ := BX4.out.cells; obtain ⟨d0, d1, d2⟩ := BU4.out.cells; clear hb)
    obtain ⟨r1, hr1⟩ : ∃ q, Tp.right t = q := ⟨_, rfl⟩
    obtain ⟨r2, hr2⟩ : ∃ q, Tp.right u = q := ⟨_, rfl⟩
    have hc1 := rright_any _ t a cap w4 (Nat.le_refl _) BX4.out.ty
    rw [tv_of HV.out, hr1] at hc1
    have HR1 := Lib.hid hr1; have HR2 := Lib.hid hr2
    clear hr1 hr2
    refine hc1.mono ?_
    clear hc1
    rintro e w5 ⟨rfl, hb⟩
    have HB5 := Lib.hid ((HB3.out.tr HB4.out (Nat.le_refl _)).tr hb (Nat.le_refl _)); have BX5 := Lib.hid (BX4.out.later hb); have BU5 := Lib.hid (BU4.out.later hb); have HZ5 := Lib.hid (show w.heap.size + 2 ≤ w5.heap.size by have := HS3.out; have := HB4.out.size; have := hb.size; omega)
    clear hb c0 c1 c2 d0 d1 d2
    cases r1 with
    | false =>
      go_wp2_with fail
      go_ret
      exact ⟨rfl, HB5.out⟩
    | true =>
    obtain ⟨d0, d1, d2⟩ := BU5.out.cells
    go_wp2_with fail
    have hc1 := rright_any _ u b cap' w5 (Nat.le_refl _) BU5.out.ty
    rw [tv_of HV'.out, HR2.out] at hc1
    refine hc1.mono ?_
    clear hc1
    rintro e w6 ⟨rfl, hb⟩
    have HB6 := Lib.hid (HB5.out.tr hb (Nat.le_refl _)); have BX6 := Lib.hid (BX5.out.later hb); have BU6 := Lib.hid (BU5.out.later hb); have HZ6 := Lib.hid (Nat.le_trans HZ5.out hb.size)
    clear hb d0 d1 d2
    cases r2 with
    | false =>
      go_wp2_with fail
      go_ret
      exact ⟨rfl, HB6.out⟩
    | true =>
    obtain ⟨n2, hn2, hi2⟩ := int20_any x w6
    obtain ⟨n3, hn3, hi3⟩ := int20_any y w6
    obtain ⟨n4, hn4, hi4⟩ := int20_any z w6
    have HI2 := Lib.hid hi2; have HI3 := Lib.hid hi3; have HI4 := Lib.hid hi4
    clear hi2 hi3 hi4
    go_wp2_with fail
    refine HI2.out.mono ?_
    rintro e wx ⟨rfl, hw⟩
    rw [hw]; clear hw wx
    go_wp2_with fail
    refine HI3.out.mono ?_
    rintro e wx ⟨rfl, hw⟩
    rw [hw]; clear hw wx
    go_wp2_with fail
    refine HI4.out.mono ?_
    rintro e wx ⟨rfl, hw⟩
    rw [hw]; clear hw wx HI2 HI3 HI4
    go_wp2_with fail
    refine (new12_any 65536 w6).mono ?_
    rintro e w7 ⟨g1, cap1, rfl, hsv, hb⟩
    rw [show min (max (65536 : Int) 0) 65536 = 65536 from by decide] at hsv
    have hmm := @run_makeMap Try.prog
    have S7 := Lib.hid hsv; have HB7 := Lib.hid hb
    clear hsv hb
    go_upto_region 8 with fail
    obtain ⟨W8, hW8⟩ : ∃ W, (w7.alloc (.map #[] 0)).alloc (.map #[] 0) = W := ⟨_, rfl⟩
    rw [hW8]
    have hb8 : Below w7.heap.size w7 W8 := by rw [← hW8]; exact ((Below.refl _ _).alloc (Nat.le_refl _) _).alloc (by simp) _
    have hs8 : W8.heap.size = w7.heap.size + 2 := by rw [← hW8]; simp
    have hi1 : IMAt W8 w7.heap.size 0 (fun _ => none) := (im_new w7).same (by rw [← hW8]; exact Below.heap_alloc _ _ _ (by simp))
    have hi2 : IMAt W8 (w7.heap.size + 1) 0 (fun _ => none) := by have h9 := im_new (w7.alloc (.map #[] 0)); rw [World.size_alloc, hW8] at h9; exact h9
    have h67 : w6.heap.size < w7.heap.size := S7.out.far.2.2.1
    have hg1 := S7.out.far
    have hz6 := HZ6.out
    have hb68 : Below w6.heap.size w6 W8 := HB7.out.tr hb8 (Nat.le_refl _)
    have hbx8 := (hb68.block w.heap.size (by omega)).trans BX6.out.box
    have hbu8 := (hb68.block (w.heap.size + 1) (by omega)).trans BU6.out.box
    have hb08 : Below w.heap.size w W8 := HB6.out.tr hb68 (Nat.le_refl _)
    have hty8 : TyAt (LT w.heap.size) W8 t a cap := ty_same (fun k hk => hb08.block k hk) (fun _ h => h) HTY.out
    have htu8 : TyAt (LT w.heap.size) W8 u b cap' := ty_same (fun k hk => hb08.block k hk) (fun _ h => h) HTY'.out
    have hsz : Tp.size t + Tp.size u ≤ 600 := by have h9 := of_decide_eq_false HHZ.out; rw [sizes_two] at h9; omega
    have hmade := made12_any w.heap.size w6.heap.size w6.heap.size w7.heap.size 65536 0 (n2 : Int) (by omega) (by omega) (by omega) (by omega) (Tp.size t) t g1 cap1 0 0 (lvs 5) (fun _ => none) a cap W8 (Nat.le_refl _) HR1.out (S7.out.below hb8) ⟨by decide, by decide, by decide, by decide⟩ (by omega) hi1 (by omega) (fun k p h => by cases h) lv_five hty8 (by omega)
    rw [tv_of HV.out] at hmade
    have c0 : W8.cell? ⟨w.heap.size, 0, none⟩ = some (.int .i64 k0) := cell_box hbx8 rfl rfl
    have c1 : W8.cell? ⟨w.heap.size, 1, none⟩ = some (.int .i64 n0) := cell_box hbx8 rfl rfl
    have c2 : W8.cell? ⟨w.heap.size, 2, none⟩ = some (.slice a m0 cap) := cell_box hbx8 rfl rfl
    have HM1 := Lib.hid hmade; have HS8 := Lib.hid hs8; have HI2 := Lib.hid hi2; have H67 := Lib.hid h67; have HG1 := Lib.hid hg1; have HBU8 := Lib.hid hbu8; have HTU8 := Lib.hid htu8; have HSZ := Lib.hid hsz; have HB08 := Lib.hid hb08
    clear hmade hW8 hb8 hs8 hi1 hi2 h67 hg1 hz6 hb68 hbx8 hbu8 hb08 hty8 htu8 hsz hmm
    go_wp2_with fail
    refine HM1.out.mono ?_
    clear HM1 c0 c1 c2
    rintro e w9 ⟨g2, cap2, p1, nm1, C1, H1, M1, rfl, hsv, hC, hbd, hmp, -, hgr, him, hk, hg, hct, hoc⟩
    have h67 := H67.out; have hg1 := HG1.out; have hz6 := HZ6.out; have hs8 := HS8.out; have hsz := HSZ.out
    have hi2 : IMAt w9 (w7.heap.size + 1) 0 (fun _ => none) := HI2.out.same (hk.block _ (by omega) (by omega))
    have hbu9 := hk.heap HBU8.out (by omega) (by omega)
    have htu9 : TyAt (LT w.heap.size) w9 u b cap' := ty_same (fun k hk9 => hk.block k (by have : k < w.heap.size := hk9; omega) (by have : k < w.heap.size := hk9; omega)) (fun _ h => h) HTU8.out
    have hg2 : g2 < w7.heap.size ∨ w7.heap.size + 2 ≤ g2 := by rcases hg with h | h <;> omega
    have hmade := made12_any w.heap.size w6.heap.size w6.heap.size (w7.heap.size + 1) 65536 0 (n3 : Int) (by omega) (by omega) (by omega) (by omega) (Tp.size u) u g2 cap2 0 C1 H1 (fun _ => none) b cap' w9 (Nat.le_refl _) HR2.out hsv hbd (by omega) hi2 (by omega) (fun k p h => by cases h) (hgr.lv lv_five) htu9 (by omega)
    rw [tv_of HV'.out] at hmade
    have d0 : w9.cell? ⟨w.heap.size + 1, 0, none⟩ = some (.int .i64 k9) := cell_box hbu9 rfl rfl
    have d1 : w9.cell? ⟨w.heap.size + 1, 1, none⟩ = some (.int .i64 n9) := cell_box hbu9 rfl rfl
    have d2 : w9.cell? ⟨w.heap.size + 1, 2, none⟩ = some (.slice b m9 cap') := cell_box hbu9 rfl rfl
    have HM2 := Lib.hid hmade; have S9 := Lib.hid hsv; have HC1 := Lib.hid hC; have HBD1 := Lib.hid hbd; have HMP1 := Lib.hid hmp; have HGR1 := Lib.hid hgr; have HIM1 := Lib.hid him; have HG2 := Lib.hid hg2; have HCT1 := Lib.hid hct; have HOC1 := Lib.hid (show ∀ k q, M1 k = some q → occ t k from fun k q h => (hoc k q h).elim (fun h => by cases h) id)
    have HB9 := Lib.hid (HB08.out.trans (hk.below (m := w.heap.size) (by omega) (fun k h => by omega)))
    have HZ9 := Lib.hid (show W8.heap.size ≤ w9.heap.size from hk.size)
    clear hmade h67 hg1 hz6 hs8 hsz hi2 hbu9 htu9 hg2 hsv hC hbd hmp hgr him hk hg hct hoc
    go_wp2_with fail
    refine HM2.out.mono ?_
    clear HM2 d0 d1 d2
    rintro e w10 ⟨g3, cap3, p2, nm2, C2, H2, M2, rfl, hsv, hC, hbd, hmp, -, hgr, him, hk, hg, hct, hoc⟩
    have h67 := H67.out; have hg1 := HG1.out; have hz6 := HZ6.out; have hs8 := HS8.out; have hsz := HSZ.out; have hg2 := HG2.out; have hz9 := HZ9.out; have hc1 := HC1.out; have hgs := S9.out.far
    have hmp1 : IMAt w10 w7.heap.size nm1 M1 := HMP1.out.same (hk.block _ (by omega) (by omega))
    have hg3 : g3 < w7.heap.size ∨ w7.heap.size + 2 ≤ g3 := by rcases hg with h | h <;> omega
    have S10 := Lib.hid hsv; have HC2 := Lib.hid (show C2 ≤ 600 by omega); have HBD2 := Lib.hid hbd; have HMP2 := Lib.hid hmp; have HMP1' := Lib.hid hmp1; have HGR2 := Lib.hid hgr; have HIM2 := Lib.hid him; have HG3 := Lib.hid hg3; have HCT2 := Lib.hid hct; have HOC2 := Lib.hid (show ∀ k q, M2 k = some q → occ u k from fun k q h => (hoc k q h).elim (fun h => by cases h) id)
    have HB10 := Lib.hid (HB9.out.trans (hk.below (m := w.heap.size) (by omega) (fun k h => by omega)))
    have HZ10 := Lib.hid (Nat.le_trans hz9 hk.size)
    have hV := var12_any hsv hbd (n4 : Int) (by omega) (by omega)
    obtain ⟨N, hN⟩ : ∃ N, H2.length = N := ⟨_, rfl⟩
    rw [hN] at hV
    have HVV := Lib.hid hV; have HN := Lib.hid hN
    clear hV hN h67 hg1 hz6 hs8 hsz hg2 hz9 hc1 hgs hmp1 hg3 hsv hC hbd hmp hgr him hk hg hct hoc
    go_wp2_with fail
    refine HVV.out.mono ?_
    clear HVV
    rintro e w11 ⟨rfl, g4, cap4, hsv, hk, hg⟩
    rw [HN.out] at hsv
    have h67 := H67.out; have hg1 := HG1.out; have hz6 := HZ6.out; have hs8 := HS8.out; have hg3 := HG3.out; have hz10 := HZ10.out; have hgs := S10.out.far; have hN := HN.out; have hl12 := HGR2.out.len
    obtain ⟨H3, hH3⟩ : ∃ X, H2 ++ [(⟨⟨6, (n4 : Int), 0, 0, 0⟩, N⟩ : SNd)] = X := ⟨_, rfl⟩
    rw [hH3] at hsv
    have hd3 : H3[N]? = some ⟨⟨6, (n4 : Int), 0, 0, 0⟩, N⟩ := by rw [← hH3, ← hN]; exact last12 _ _
    have hc13 : Car H1 H3 := by rw [← hH3]; exact (Car.of_grow HGR2.out).trans (Car.snoc _ _)
    have hc23 : Car H2 H3 := by rw [← hH3]; exact Car.snoc _ _
    have hmt3 : ∀ d ∈ H3, d.c.met ≤ 0 := fun d hd => by
      rw [← hH3] at hd
      obtain ⟨N1, e1, q1⟩ := HGR1.out.nodes
      obtain ⟨N2, e2, q2⟩ := HGR2.out.nodes
      rw [e2, e1] at hd
      rcases List.mem_append.1 hd with hd | hd
      · rcases List.mem_append.1 hd with hd | hd
        · rcases List.mem_append.1 hd with hd | hd
          · exact (show ∀ d ∈ lvs 5, d.c.met ≤ 0 by decide) d hd
          · rw [(q1 d hd).1]; exact Int.le_refl _
        · rw [(q2 d hd).1]; exact Int.le_refl _
      · rw [List.mem_singleton.1 hd]; exact Int.le_refl _
    have hok1 : MapOk H1 M1 := HGR1.out.ok (fun k p h => by cases h)
    have hok2 : MapOk H2 M2 := HGR2.out.ok (fun k p h => by cases h)
    have him3 := HIM1.out.carry hc13
    have hpl := HIM1.out.lt
    obtain ⟨dq, hdq, hdqu⟩ : ∃ d : SNd, H3[p1]? = some d ∧ d.up = p1 := by
      obtain ⟨tk, tn, tl⟩ := t
      obtain ⟨d, q1, q2, _⟩ := him3; exact ⟨d, q1, q2⟩
    have hlk := link12_any hsv hmt3 ⟨by decide, by decide⟩ (p := N) (q := p1) hd3 hd3 hdq (him3.den) (by rw [ren_size]; have := HSZ.out; omega)
    rw [hdqu] at hlk
    obtain ⟨vs1, hvs1⟩ : ∃ x, varsOf H3 (trav H3 (ren M1 t) p1 []) = x := ⟨_, rfl⟩
    rw [hvs1] at hlk
    have hin1 : ∀ i, i ∈ vs1 ↔ ∃ k, M1 k = some i := fun i => by rw [← hvs1]; exact vars_of_im him3 (hok1.carry hc13) HOC1.out i
    have hno : ¬ N ∈ vs1 := fun h => by obtain ⟨k, hk9⟩ := (hin1 N).1 h; have := hok1.lt hk9; omega
    have HLK := Lib.hid hlk; have HIN1 := Lib.hid hin1; have HNO := Lib.hid hno; have HOK1 := Lib.hid hok1; have HOK2 := Lib.hid hok2; have HC13 := Lib.hid hc13; have HC23 := Lib.hid hc23; have HNP := Lib.hid (show ¬ ((6 : Int) ≠ 6 ∨ N = p1) by omega); have HH3 := Lib.hid hH3
    have HB11 := Lib.hid (HB10.out.trans (hk.below (m := w.heap.size) (by omega) (fun k h => by omega)))
    have HMP11 := Lib.hid (HMP1'.out.same (hk.block _ (by omega) (by omega))); have HMP12 := Lib.hid (HMP2.out.same (hk.block _ (by omega) (by omega)))
    have HG4 := Lib.hid (show g4 < w7.heap.size ∨ w7.heap.size + 2 ≤ g4 by rcases hg with h | h <;> omega); have HZ11 := Lib.hid (Nat.le_trans hz10 hk.size); have S11 := Lib.hid hsv; have HLN := Lib.hid (show H1.length ≤ N ∧ H2.length ≤ N by omega)
    clear h67 hg1 hz6 hs8 hg3 hz10 hgs hN hl12 hH3 hd3 hc13 hc23 hmt3 hok1 hok2 him3 hpl hdq hdqu hlk hin1 hno hvs1 hsv hk hg
    go_wp2_with fail
    refine HLK.out.mono ?_
    clear HLK
    intro e w12 h
    unfold LkP at h
    rw [if_neg HNP.out] at h
    obtain ⟨hk, H4, ha4, hm4, h⟩ := h
    rw [if_neg HNO.out] at h
    obtain ⟨rfl, hsv⟩ := h
    obtain ⟨H5, hH5⟩ : ∃ X, Sg.link (lows H4 vs1 (n4 : Int)) N p1 = X := ⟨_, rfl⟩
    rw [hH5] at hsv
    have h67 := H67.out; have hg1 := HG1.out; have hz6 := HZ6.out; have hs8 := HS8.out; have hg4 := HG4.out; have hz11 := HZ11.out; have hln := HLN.out
    have hfar := S11.out.far
    have hc15 : Car H1 H5 := by rw [← hH5]; exact ((HC13.out.trans (Car.of_alk ha4)).trans (Car.lows _ _ _)).link hln.1
    have hc25 : Car H2 H5 := by rw [← hH5]; exact ((HC23.out.trans (Car.of_alk ha4)).trans (Car.lows _ _ _)).link hln.2
    have hm5 : ∀ d ∈ H5, d.c.met ≤ 1 := by rw [← hH5]; exact Sg.link_met (lows_met hm4 _ _)
    have hlv1 : ∀ i, (∃ k, M1 k = some i) → LvAt H5 i (min (n2 : Int) (n4 : Int)) := fun i hi => by
      have hv := (HIN1.out i).2 hi
      obtain ⟨k, hk9⟩ := hi
      have hlt := HOK1.out.lt hk9
      rcases HGR1.out.new k i hk9 with h9 | ⟨h9, d, q1, q2, q3⟩
      · cases h9
      · have h3 : LvAt H3 i (n2 : Int) := by rw [← HH3.out]; exact LvAt.snoc ⟨d, HGR2.out.get q1, HGR1.out.own i d h9 q1, q2, q3⟩ _
        have h4 := LvAt.lows (n4 : Int) vs1 (h3.alk ha4)
        rw [if_pos hv] at h4
        rw [← hH5]; exact h4.link (by omega)
    have hlv2 : ∀ i, (∃ k, M2 k = some i) → LvAt H5 i (n3 : Int) := fun i hi => by
      obtain ⟨k, hk9⟩ := hi
      have hlt := HOK2.out.lt hk9
      rcases HGR2.out.new k i hk9 with h9 | ⟨h9, d, q1, q2, q3⟩
      · cases h9
      · have hv : ¬ i ∈ vs1 := fun h => by obtain ⟨k, hk9⟩ := (HIN1.out i).1 h; have := HOK1.out.lt hk9; omega
        have h3 : LvAt H3 i (n3 : Int) := by rw [← HH3.out]; exact LvAt.snoc ⟨d, q1, HGR2.out.own i d h9 q1, q2, q3⟩ _
        have h4 := LvAt.lows (n4 : Int) vs1 (h3.alk ha4)
        rw [if_neg hv] at h4
        rw [← hH5]; exact h4.link (by have := HN.out; omega)
    have hmp1 : IMAt w12 w7.heap.size nm1 M1 := HMP11.out.same (hk.block _ (by omega) (by omega))
    have hmp2 : IMAt w12 (w7.heap.size + 1) nm2 M2 := HMP12.out.same (hk.block _ (by omega) (by omega))
    have hb12 := HB11.out.trans (hk.below (m := w.heap.size) (by omega) (fun k h => by omega))
    have hsz12 := Nat.le_trans hz11 hk.size
    have him1 := HIM1.out.carry hc15
    have hva := vars12_any hsv hm5 ⟨by decide, by decide⟩ him1.den (by rw [ren_size]; have := HSZ.out; omega)
    have hlen1 : (varsOf H5 (trav H5 (ren M1 t) p1 [])).length = nm1 := by
      rw [(vars_len_same HIM1.out HOK1.out hc15 HOC1.out).1]
      have h9 := vars_count HGR1.out HIM1.out HOC1.out
      have h8 := HCT1.out
      omega
    have hin1 : ∀ i, i ∈ varsOf H5 (trav H5 (ren M1 t) p1 []) ↔ ∃ k, M1 k = some i := vars_of_im him1 (HOK1.out.carry hc15) HOC1.out
    obtain ⟨L1, hL1⟩ : ∃ x, varsOf H5 (trav H5 (ren M1 t) p1 []) = x := ⟨_, rfl⟩
    rw [hL1] at hva hlen1 hin1
    have HVA := Lib.hid hva; have HLEN1 := Lib.hid hlen1; have HIL1 := Lib.hid hin1; have HC25 := Lib.hid hc25; have HLV1 := Lib.hid hlv1; have HLV2 := Lib.hid hlv2; have HMP1a := Lib.hid hmp1; have HMP2a := Lib.hid hmp2; have HB12 := Lib.hid hb12; have HZ12 := Lib.hid hsz12; have S12 := Lib.hid hsv; have HF12 := Lib.hid hsv.far
    clear hva hlen1 hin1 hc25 hlv1 hlv2 hmp1 hmp2 hb12 hsz12 hsv h67 hg1 hz6 hs8 hg4 hz11 hln hfar hc15 hm5 him1 hL1 hH5 hk ha4 hm4
    go_wp2_with fail
    refine HVA.out.mono ?_
    clear HVA
    rintro e w13 ⟨v, H6, rfl, hown, hsv, hal, hmt, hk⟩
    obtain ⟨va, vc, rfl, hna, hvb⟩ := nats_own hown
    rw [HLEN1.out]
    have h67 := H67.out; have hg1 := HG1.out; have hz6 := HZ6.out; have hs8 := HS8.out; have hg4 := HG4.out; have hz12 := HZ12.out; have hf12 := HF12.out
    have hc26 := HC25.out.trans (Car.of_alk hal)
    have him2 := HIM2.out.carry hc26
    have hva := vars12_any hsv hmt ⟨by decide, by decide⟩ him2.den (by rw [ren_size]; have := HSZ.out; omega)
    have hlen2 : (varsOf H6 (trav H6 (ren M2 u) p2 [])).length = nm2 := by
      rw [(vars_len_same HIM2.out HOK2.out hc26 HOC2.out).1]
      have h9 := vars_count HGR2.out HIM2.out HOC2.out
      have h8 := HCT2.out
      omega
    have hin2 : ∀ i, i ∈ varsOf H6 (trav H6 (ren M2 u) p2 []) ↔ ∃ k, M2 k = some i := vars_of_im him2 (HOK2.out.carry hc26) HOC2.out
    obtain ⟨L2, hL2⟩ : ∃ x, varsOf H6 (trav H6 (ren M2 u) p2 []) = x := ⟨_, rfl⟩
    rw [hL2] at hva hlen2 hin2
    have HVA := Lib.hid hva; have HLEN2 := Lib.hid hlen2; have HIL2 := Lib.hid hin2; have HC26 := Lib.hid hc26
    have HMP1b := Lib.hid (HMP1a.out.same (hk.block _ (by omega) (by omega))); have HMP2b := Lib.hid (HMP2a.out.same (hk.block _ (by omega) (by omega))); have HB13 := Lib.hid (HB12.out.trans (hk.below (m := w.heap.size) (by omega) (fun k h => by omega))); have HZ13 := Lib.hid (Nat.le_trans hz12 hk.size); have HZ13b := Lib.hid (show w12.heap.size ≤ w13.heap.size from hk.size); have S13 := Lib.hid hsv; have HAL6 := Lib.hid hal; have HNA1 := Lib.hid hna; have HVB1 := Lib.hid hvb
    clear hva hlen2 hin2 hc26 him2 hL2 h67 hg1 hz6 hs8 hg4 hz12 hf12 hown hsv hal hmt hk hna hvb
    go_wp2_with fail
    refine HVA.out.mono ?_
    clear HVA
    rintro e w14 ⟨v, H7, rfl, hown, hsv, hal, hmt, hk⟩
    obtain ⟨vb, vd, rfl, hna, hvb⟩ := nats_own hown
    rw [HLEN2.out]
    have h67 := H67.out; have hg1 := HG1.out; have hz6 := HZ6.out; have hs8 := HS8.out; have hg4 := HG4.out; have hz13 := HZ13.out; have hf12 := HF12.out
    have hl1 := fun ty => im_len (HMP1b.out.same (hk.block _ (by omega) (by omega))) ty
    have hl2 := fun ty => im_len (HMP2b.out.same (hk.block _ (by omega) (by omega))) ty
    have HNA1' := Lib.hid (HNA1.out.keep (w' := w14) (fun b o e => by have := HVB1.out b o e; have := HZ12.out; exact hk.block b (by omega) (by omega)))
    have HNA2 := Lib.hid hna; have HVB2 := Lib.hid hvb; have S14 := Lib.hid hsv; have HAL7 := Lib.hid hal; have HMT7 := Lib.hid hmt
    have HB14 := Lib.hid (HB13.out.trans (hk.below (m := w.heap.size) (by omega) (fun k h => by omega))); have HZ14 := Lib.hid hk.size
    clear h67 hg1 hz6 hs8 hg4 hz13 hf12 hown hsv hal hmt hk hna hvb
    go_wp2_with fail
    have HSMALL := Lib.hid (show nm1 ≤ 1000000 ∧ nm2 ≤ 1000000 by
      have q1 := HCT1.out; have q2 := HCT2.out; have q3 := HBD1.out.n; have q4 := HBD2.out.n; have q5 := HC1.out; have q6 := HC2.out
      have q7 : vcnt H1 ≤ H1.length := List.length_filter_le _ _
      have q8 : vcnt H2 ≤ H2.length := List.length_filter_le _ _
      have q9 := HSZ.out
      omega)
    have HLV7 := Lib.hid (fun i hi => ((HLV1.out i hi).alk HAL6.out).alk HAL7.out)
    have S14' := S14.out
    have S14 := Lib.hid (show SV w6.heap.size w6.heap.size g4 cap4 65536 (C2 + 1) 3 w14 H7 from S14')
    have M7 := Lib.hid (show ∀ d ∈ H7, d.c.met ≤ 3 from HMT7.out)
    clear S14' hl1 hl2
    go_loopg [22] nm1 (fun gk v wr => ∃ k : Nat, k ≤ nm1 ∧ v = .int .i64 (k : Int) ∧ SV w6.heap.size w6.heap.size g4 cap4 65536 (C2 + 1) 3 wr H7 ∧ Kp w14.heap.size (fun j => j = g4) w14 wr ∧ gk = nm1 - k)
    case atStart => exact ⟨0, Nat.zero_le _, rfl, S14.out, Kp.refl _ _ _, rfl⟩
    case round =>
    obtain ⟨k, hkn, rfl, hsv, hkp, rfl⟩ := hrel
    by_cases hlt : k < nm1
    · have hkl : k < L1.length := by rw [HLEN1.out]; exact hlt
      obtain ⟨bq, rfl, hcq⟩ := HNA1'.out k hkl
      obtain ⟨q1, q2⟩ := HVB1.out bq 0 rfl
      have hbd : bq < w14.heap.size ∧ bq ≠ g4 := by have := HZ12.out; have := HZ14.out; have := HF12.out; omega
      have hcr := hkp.cell hcq hbd.1 hbd.2
      obtain ⟨i, hi⟩ : ∃ i, L1[k] = i := ⟨_, rfl⟩
      rw [hi] at hcr
      obtain ⟨d, h1, h2, h3, h4⟩ := HLV7.out i ((HIL1.out i).1 (by rw [← hi]; exact List.getElem_mem hkl))
      have hlv := level12_any hsv h1 (by rw [h2]; exact h1)
      rw [h3, if_pos rfl, h4] at hlv
      obtain ⟨i1, i2⟩ := pt_int hlt
      have HL := Lib.hid hlv; have HKP := Lib.hid hkp
      have hkk : wrap64 ((k : Int) + 1) = ((k + 1 : Nat) : Int) := by have := HLEN1.out; have h9 := HSMALL.out; unfold wrap64; omega
      have HKK := Lib.hid hkk
      clear hlv hkp hkl hcq q1 q2 hbd hi h1 h2 h3 h4 hkk hsv
      by_cases h24 : (n4 : Int) < (n2 : Int)
      · have HL2 := Lib.hid (show Calls Try.prog 35 #[.pointer (some ⟨w6.heap.size, 0, none⟩), .int .i64 (i : Int)] wr fun e w' => e = .returned (.int .i64 (n4 : Int)) ∧ SV w6.heap.size w6.heap.size g4 cap4 65536 (C2 + 1) 3 w' H7 ∧ Kp wr.heap.size (fun k => k = g4) wr w' by have h9 := HL.out; rw [show min (n2 : Int) (n4 : Int) = (n4 : Int) from by omega] at h9; exact h9)
        go_wp2_with fail
        refine HL2.out.mono ?_
        rintro e wn ⟨rfl, hsv, hk⟩
        have HSN := Lib.hid hsv; have HKN := Lib.hid (HKP.out.trans (hk.mono HKP.out.size (fun _ _ h => h)))
        clear hsv hk HL HL2
        go_wp2_with fail
        go_roundg (nm1 - (k + 1))
        case measure => omega
        case rel => exact ⟨k + 1, hlt, congrArg (Value.int .i64) HKK.out, HSN.out, HKN.out, rfl⟩
      · have HL2 := Lib.hid (show Calls Try.prog 35 #[.pointer (some ⟨w6.heap.size, 0, none⟩), .int .i64 (i : Int)] wr fun e w' => e = .returned (.int .i64 (n2 : Int)) ∧ SV w6.heap.size w6.heap.size g4 cap4 65536 (C2 + 1) 3 w' H7 ∧ Kp wr.heap.size (fun k => k = g4) wr w' by have h9 := HL.out; rw [show min (n2 : Int) (n4 : Int) = (n2 : Int) from by omega] at h9; exact h9)
        go_wp2_with fail
        refine HL2.out.mono ?_
        rintro e wn ⟨rfl, hsv, hk⟩
        have HSN := Lib.hid hsv; have HKN := Lib.hid (HKP.out.trans (hk.mono HKP.out.size (fun _ _ h => h)))
        clear hsv hk HL HL2
        go_wp2_with fail
        go_roundg (nm1 - (k + 1))
        case measure => omega
        case rel => exact ⟨k + 1, hlt, congrArg (Value.int .i64) HKK.out, HSN.out, HKN.out, rfl⟩
    · obtain rfl : k = nm1 := by omega
      have hz12 := HZ12.out; have hz13 := HZ13.out; have hz13b := HZ13b.out; have hz14 := HZ14.out; have hf12 := HF12.out; have hz6 := HZ6.out
      have hc27 := HC26.out.trans (Car.of_alk HAL7.out)
      have him7 := HIM2.out.carry hc27
      have hlw := flower12_any hsv M7.out ⟨by decide, by decide⟩ him7.den (by rw [ren_size]; have := HSZ.out; omega) (n4 : Int) (by omega)
      have hin3 : ∀ i, i ∈ varsOf H7 (trav H7 (ren M2 u) p2 []) ↔ ∃ k, M2 k = some i := vars_of_im him7 (HOK2.out.carry hc27) HOC2.out
      obtain ⟨L3, hL3⟩ : ∃ x, varsOf H7 (trav H7 (ren M2 u) p2 []) = x := ⟨_, rfl⟩
      rw [hL3] at hlw hin3
      have hb15 := HB14.out.trans (hkp.below (m := w.heap.size) (by have := HB14.out.size; omega) (fun k h => by omega))
      have HLW := Lib.hid hlw; have HIN3 := Lib.hid hin3; have HB15 := Lib.hid hb15; have HC27 := Lib.hid hc27; have HKP15 := Lib.hid hkp
      clear hlw hin3 hL3 hb15 hc27 him7 hkp hsv hz12 hz13 hz13b hz14 hf12 hz6
      go_wp2_with fail
      refine HLW.out.mono ?_
      clear HLW
      rintro e w16 ⟨rfl, hk, H8, ha8, hm8, hsv⟩
      have hz12 := HZ12.out; have hz13 := HZ13.out; have hz13b := HZ13b.out; have hz14 := HZ14.out; have hf12 := HF12.out; have hz6 := HZ6.out; have hk15 := HKP15.out.size
      obtain ⟨H9, hH9⟩ : ∃ X, lows H8 L3 (n4 : Int) = X := ⟨_, rfl⟩
      rw [hH9] at hsv
      have hsv9 : SV w6.heap.size w6.heap.size g4 cap4 65536 (C2 + 1) 4 w16 H9 := hsv
      have hm9 : ∀ d ∈ H9, d.c.met ≤ 4 := by rw [← hH9]; exact lows_met hm8 _ _
      have hc29 : Car H2 H9 := by rw [← hH9]; exact (HC27.out.trans (Car.of_alk ha8)).trans (Car.lows _ _ _)
      have hlv9 : ∀ i, (∃ k, M2 k = some i) → LvAt H9 i (min (n3 : Int) (n4 : Int)) := fun i hi => by
        have h4 := LvAt.lows (n4 : Int) L3 ((((HLV2.out i hi).alk HAL6.out).alk HAL7.out).alk ha8)
        rw [if_pos ((HIN3.out i).2 hi), hH9] at h4; exact h4
      have him9 := HIM2.out.carry hc29
      have hlw := flower12_any hsv9 hm9 ⟨by decide, by decide⟩ him9.den (by rw [ren_size]; have := HSZ.out; omega) ((n3 : Int) + 1) (by omega)
      have hin4 : ∀ i, i ∈ varsOf H9 (trav H9 (ren M2 u) p2 []) ↔ ∃ k, M2 k = some i := vars_of_im him9 (HOK2.out.carry hc29) HOC2.out
      obtain ⟨L4, hL4⟩ : ∃ x, varsOf H9 (trav H9 (ren M2 u) p2 []) = x := ⟨_, rfl⟩
      rw [hL4] at hlw hin4
      have hb16 := HB15.out.trans (hk.below (m := w.heap.size) (by have := HB15.out.size; omega) (fun k h => by omega))
      have hna16 : NatsAt w16 L2 vb := (HNA2.out.keep (w' := wr) (fun bq o e => by have := HVB2.out bq o e; exact HKP15.out.block bq (by omega) (by omega))).keep (fun bq o e => by have := HVB2.out bq o e; exact hk.block bq (by omega) (by omega))
      have hw31 : wrap64 ((n3 : Int) + 1) = (n3 : Int) + 1 := by unfold wrap64; omega
      have HLW := Lib.hid hlw; have HIN4 := Lib.hid hin4; have HB16 := Lib.hid hb16; have HC29 := Lib.hid hc29; have HLV9 := Lib.hid hlv9; have HNA16 := Lib.hid hna16; have HZ16 := Lib.hid (Nat.le_trans hk15 hk.size)
      clear hlw hin4 hL4 hb16 hc29 him9 hlv9 hm9 hsv9 hH9 hk hsv hm8 ha8 hna16 hz12 hz13 hz13b hz14 hf12 hz6 hk15
      go_wp2_with fail
      refine HLW.out.mono ?_
      clear HLW
      rintro e w17 ⟨rfl, hk, H10, ha10, hm10, hsv⟩
      have hz12 := HZ12.out; have hz13 := HZ13.out; have hz13b := HZ13b.out; have hz14 := HZ14.out; have hf12 := HF12.out; have hz6 := HZ6.out; have hz16 := HZ16.out
      obtain ⟨H11, hH11⟩ : ∃ X, lows H10 L4 ((n3 : Int) + 1) = X := ⟨_, rfl⟩
      rw [hH11] at hsv
      have S17 := Lib.hid (show SV w6.heap.size w6.heap.size g4 cap4 65536 (C2 + 1) 5 w17 H11 from hsv)
      have HC211 := Lib.hid (show Car H2 H11 by rw [← hH11]; exact (HC29.out.trans (Car.of_alk ha10)).trans (Car.lows _ _ _))
      have HLV11 := Lib.hid (show ∀ i, (∃ k, M2 k = some i) → LvAt H11 i (min (n3 : Int) (n4 : Int)) from fun i hi => by
        have h4 := LvAt.lows ((n3 : Int) + 1) L4 ((HLV9.out i hi).alk ha10)
        rw [if_pos ((HIN4.out i).2 hi), hH11, show min (min (n3 : Int) (n4 : Int)) ((n3 : Int) + 1) = min (n3 : Int) (n4 : Int) from by omega] at h4; exact h4)
      have HB17 := Lib.hid (HB16.out.trans (hk.below (m := w.heap.size) (by have := HB16.out.size; omega) (fun k h => by omega)))
      have HNA17 := Lib.hid (HNA16.out.keep (w' := w17) (fun bq o e => by have := HVB2.out bq o e; exact hk.block bq (by omega) (by omega)))
      have HZ17 := Lib.hid (Nat.le_trans hz16 hk.size)
      clear hk hsv hH11 hm10 ha10 hz12 hz13 hz13b hz14 hf12 hz6 hz16 hw31
      go_wp2_with fail
      go_loopg [23] nm2 (fun gk v wr => ∃ k : Nat, k ≤ nm2 ∧ v = .int .i64 (k : Int) ∧ SV w6.heap.size w6.heap.size g4 cap4 65536 (C2 + 1) 5 wr H11 ∧ Kp w17.heap.size (fun j => j = g4) w17 wr ∧ gk = nm2 - k)
      case atStart => exact ⟨0, Nat.zero_le _, rfl, S17.out, Kp.refl _ _ _, rfl⟩
      case round =>
      obtain ⟨k, hkn, rfl, hsv, hkp, rfl⟩ := hrel
      by_cases hlt : k < nm2
      · have hkl : k < L2.length := by rw [HLEN2.out]; exact hlt
        obtain ⟨bq, rfl, hcq⟩ := HNA17.out k hkl
        obtain ⟨q1, q2⟩ := HVB2.out bq 0 rfl
        have hbd : bq < w17.heap.size ∧ bq ≠ g4 := by have := HZ13b.out; have := HZ17.out; have := HF12.out; omega
        have hcr := hkp.cell hcq hbd.1 hbd.2
        obtain ⟨i, hi⟩ : ∃ i, L2[k] = i := ⟨_, rfl⟩
        rw [hi] at hcr
        obtain ⟨d, h1, h2, h3, h4⟩ := HLV11.out i ((HIL2.out i).1 (by rw [← hi]; exact List.getElem_mem hkl))
        have hlv := level12_any hsv h1 (by rw [h2]; exact h1)
        rw [h3, if_pos rfl, h4] at hlv
        obtain ⟨i1, i2⟩ := pt_int hlt
        have HL := Lib.hid hlv; have HKP := Lib.hid hkp
        have hkk : wrap64 ((k : Int) + 1) = ((k + 1 : Nat) : Int) := by have := HLEN2.out; have h9 := HSMALL.out; unfold wrap64; omega
        have HKK := Lib.hid hkk
        clear hlv hkp hkl hcq q1 q2 hbd hi h1 h2 h3 h4 hkk hsv
        by_cases h24 : (n4 : Int) < (n3 : Int)
        · have HL2 := Lib.hid (show Calls Try.prog 35 #[.pointer (some ⟨w6.heap.size, 0, none⟩), .int .i64 (i : Int)] wr fun e w' => e = .returned (.int .i64 (n4 : Int)) ∧ SV w6.heap.size w6.heap.size g4 cap4 65536 (C2 + 1) 5 w' H11 ∧ Kp wr.heap.size (fun k => k = g4) wr w' by have h9 := HL.out; rw [show min (n3 : Int) (n4 : Int) = (n4 : Int) from by omega] at h9; exact h9)
          go_wp2_with fail
          refine HL2.out.mono ?_
          rintro e wn ⟨rfl, hsv, hk⟩
          have HSN := Lib.hid hsv; have HKN := Lib.hid (HKP.out.trans (hk.mono HKP.out.size (fun _ _ h => h)))
          clear hsv hk HL HL2
          go_wp2_with fail
          go_roundg (nm2 - (k + 1))
          case measure => omega
          case rel => exact ⟨k + 1, hlt, congrArg (Value.int .i64) HKK.out, HSN.out, HKN.out, rfl⟩
        · have HL2 := Lib.hid (show Calls Try.prog 35 #[.pointer (some ⟨w6.heap.size, 0, none⟩), .int .i64 (i : Int)] wr fun e w' => e = .returned (.int .i64 (n3 : Int)) ∧ SV w6.heap.size w6.heap.size g4 cap4 65536 (C2 + 1) 5 w' H11 ∧ Kp wr.heap.size (fun k => k = g4) wr w' by have h9 := HL.out; rw [show min (n3 : Int) (n4 : Int) = (n3 : Int) from by omega] at h9; exact h9)
          go_wp2_with fail
          refine HL2.out.mono ?_
          rintro e wn ⟨rfl, hsv, hk⟩
          have HSN := Lib.hid hsv; have HKN := Lib.hid (HKP.out.trans (hk.mono HKP.out.size (fun _ _ h => h)))
          clear hsv hk HL HL2
          go_wp2_with fail
          go_roundg (nm2 - (k + 1))
          case measure => omega
          case rel => exact ⟨k + 1, hlt, congrArg (Value.int .i64) HKK.out, HSN.out, HKN.out, rfl⟩
      · obtain rfl : k = nm2 := by omega
        have hf12 := HF12.out; have hz6 := HZ6.out
        have hp1 : p1 < H11.length := ((HIM1.out.carry (Car.of_grow HGR2.out)).carry HC211.out).lt
        have hlo := flower12_low hsv hp1 (-1) (by decide)
        have HLO := Lib.hid hlo; have HB18 := Lib.hid (HB17.out.trans (hkp.below (m := w.heap.size) (by have := HB17.out.size; omega) (fun k h => by omega)))
        clear hlo hkp hsv hp1 hf12 hz6
        go_wp2_with fail
        refine HLO.out.mono ?_
        rintro e w18 ⟨rfl, hb⟩
        have HB19 := Lib.hid (HB18.out.tr hb (Nat.le_refl _))
        clear hb HLO
        go_wp2_with fail
        refine (wakes12_any w18).mono ?_
        rintro e w19 ⟨rfl, hb⟩
        have HB20 := Lib.hid (HB19.out.tr hb (Nat.le_refl _))
        clear hb
        go_wp2_with fail
        go_ret
        exact ⟨rfl, HB20.out⟩
end Go.Proofs.Ytnnkhjmfedmajaa
