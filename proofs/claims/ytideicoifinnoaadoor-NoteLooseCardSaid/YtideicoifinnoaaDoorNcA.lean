/- The law NoteCut: its walk. -/
import Derived.Test.YtideicoifinnoaaDoorNxB
import Derived.Test.YtideicoifinnoaaDoorLexA
import Derived.Deep.DeepCutAuto
namespace Go.Proofs.YtideicoifinnoaaDoor
open Go Go.RowKit
open Tp (T)

theorem elem_toks : Tryd.prog.underlying 34 = some (.slice (Tryd.prog.elem 34)) := by kernel_rfl
theorem size_tok (w : World) : (sizeOf (Tryd.prog.elem 34)).run Tryd.prog w = .ok 5 w := by kernel_rfl
theorem toks_take (a : Option Addr) (n cap k : Nat) (hc : k ≤ cap) : ∃ a', (∀ w' : World, (Instr.slice 34 (.slice a n cap) none (some (.int .i64 (k : Int))) none).run Tryd.prog w' = .ok (.slice a' k cap) w') ∧ (∀ {n0 : Nat} {w : World} {L : List Lx.Tok}, TksAt n0 w a L → TksAt n0 w a' (L.take k)) := by
  refine ⟨if cap = 0 then a else a.map (·.add (0 * 5)), fun w' => ?_, fun {n0 w L} h => ?_⟩
  · rw [run_slice_h w' _ a n cap elem_toks .i64 (k : Int) (by omega) (by omega), size_tok]
    simp [Result.andThen, sliced]
  · rcases h with h0 | ⟨g, rfl, h2, h3⟩
    · exact .inl (by rw [h0]; simp)
    · refine .inr ⟨g, ?_, h2, fun i hi => ?_⟩
      · split <;> simp [Addr.add]
      · rw [List.getElem_take]
        exact h3 i (by simp at hi; omega)
set_option maxRecDepth 100000 in
/-- A place in a row that is not empty. -/
theorem kint_any (x : Int) (l : Nat) (w : World) (h0 : 0 < l) (h1 : l ≤ 100000) :
    ∃ k : Nat, k < l ∧ Calls Tryd.prog 18 #[.int .i64 x, .int .i64 (l : Int)] w fun e w' => e = .returned (.int .i64 (k : Int)) ∧ Below w.heap.size w w' := by
  have h : 0 ≤ IntKind.u64.wrap x := by
    simp [IntKind.wrap, IntKind.bits, IntKind.signed]
    omega
  have h2 : IntKind.u64.wrap (l : Int) = (l : Int) := by
    simp [IntKind.wrap, IntKind.bits, IntKind.signed]
    omega
  have h3 : 0 ≤ (IntKind.u64.wrap x).tmod (l : Int) ∧ (IntKind.u64.wrap x).tmod (l : Int) < (l : Int) := by
    rw [Int.tmod_eq_emod_of_nonneg h]
    exact ⟨Int.emod_nonneg _ (by omega), Int.emod_lt_of_pos _ (by omega)⟩
  obtain ⟨r, hr⟩ : ∃ r, (IntKind.u64.wrap x).tmod (l : Int) = r := ⟨_, rfl⟩
  rw [hr] at h3
  have h4 : wrap64 r = r := by unfold wrap64; omega
  have h5 : ((l : Int) == 0) = false := by rw [beq_eq_false_iff_ne]; omega
  have h6 : ¬ (l : Int) < 1 := by omega
  have h7 : (r.toNat : Int) = r := by omega
  refine ⟨r.toNat, by omega, ?_⟩
  rw [h7]
  clear h
  go_enter Tryd.func18, Tryd.ntmps18
  go_wp2_with fail
  go_ret
  exact ⟨rfl, Below.refl _ _⟩
theorem cut_read {t : T} (hr : Tp.right t = true) (hc : Tp.without 6 t = true) {L : List Lx.Tok} (h : L.map Nt.keyT = Nt.tk t) {k : Nat} (hk : k ≤ L.length) :
    readOut (L.take k) 0 = (Nt.noT, k, 3) ∨ (0 < k ∧ ∃ u : T, 0 < u.kind ∧ readOut (L.take k) 0 = (u, k, 0)) := by
  have hl : (L.take k).length = k := by rw [List.length_take]; omega
  have hp : ksAt (L.take k) 0 ++ (L.drop k).map Nt.keyT = Nt.tk t := by rw [ksAt_zero, ← List.map_append, List.take_append_drop, h]
  have hend : ksAt (L.take k) k = [] := by unfold ksAt; rw [List.drop_eq_nil_of_le (by omega)]; rfl
  rcases Nt.cut_top hr hc hp with h1 | ⟨u, hu, h1⟩
  · left
    have := readOut_no (L := L.take k) (i := 0) (n := k) (Nat.zero_le _) (by omega) (by rw [hend]; exact h1)
    exact this
  · right
    have h0 : 0 < k := by
      rcases Nat.eq_zero_or_pos k with rfl | h0
      · rw [hend, Nt.read_nil] at h1
        cases h1
      · exact h0
    exact ⟨h0, u, hu, readOut_ok (L := L.take k) (i := 0) (n := k) (Nat.zero_le _) (by omega) (by rw [hend]; exact h1)⟩
theorem tokens_of {t : T} (hr : Tp.right t = true) (hc : Tp.without 6 t = true) (hs : Tp.size t ≤ 600) : ∃ L, scanAll (Nt.text t) = .good L ∧ L.map Nt.keyT = Nt.tk t ∧ 0 < L.length := by
  obtain ⟨L, h1, h2⟩ := back_scan hr hc hs (m := []) (r := []) (by simp) (fun c hc => by cases hc) (fun o => ⟨[], rfl, by rw [Lx.Res.glue_nil]; rfl⟩)
  rw [List.append_nil] at h1 h2
  refine ⟨L, h1, h2, ?_⟩
  have := congrArg List.length h2
  rw [List.length_map] at this
  have h3 := List.length_pos_iff.2 (Nt.tk_ne t hr hc)
  omega
set_option maxRecDepth 100000 in
set_option maxHeartbeats 4000000 in
theorem walk_noteCut (t : T) (a : Option Addr) (cap : Nat) (x : Int) (w : World) (hg : Good w) (hx : I64 x) (hty : TyAt (LT w.heap.size) w t a cap) :
    Calls Tryd.prog 6 #[tv t a cap, .int .i64 x] w fun e w' => e = .returned (.bool true) ∧ Below w.heap.size w w' := by
  obtain ⟨k0, hk0⟩ : ∃ k0, t.kind = k0 := ⟨_, rfl⟩
  obtain ⟨n0, hn0⟩ : ∃ n0, t.num = n0 := ⟨_, rfl⟩
  obtain ⟨m0, hm0⟩ : ∃ m0, t.kids.length = m0 := ⟨_, rfl⟩
  obtain ⟨hv, hhv⟩ : ∃ hv, decide (600 < Tp.sizes [t]) = hv := ⟨_, rfl⟩
  obtain ⟨W0, hW0⟩ : ∃ W, w.alloc (.cells #[.int .i64 k0, .int .i64 n0, .slice a m0 cap] 24) = W := ⟨_, rfl⟩
  obtain ⟨hcell, htw, hle, hbw⟩ := box_facts hty (k := k0) (n := n0) (m := m0)
  rw [hW0] at hcell htw hle hbw
  have hgw := fun w1 (hb : Below (w.heap.size + 1) W0 w1) => hg.below (hbw w1 hb)
  have hhe := fun w1 (hb : Below (w.heap.size + 1) W0 w1) => heavy_any [t] (some ⟨w1.heap.size, 0, none⟩) 1 _ (by simp) (row_one (htw w1 hb) hk0 hn0 hm0)
  have hsz : hv = false → Tp.size t ≤ 600 := fun h => by
    rw [h, sizes_one] at hhv
    simp only [decide_eq_false_iff_not] at hhv
    omega
  have hra := fun w1 (hb : Below (w.heap.size + 1) W0 w1) => rright_any _ t a cap w1 (Nat.le_refl _) (htw w1 hb)
  have hca := fun w1 (hb : Below (w.heap.size + 1) W0 w1) => rwithout_any 6 _ t a cap w1 (Nat.le_refl _) (htw w1 hb)
  have hta := fun w1 (hb : Below (w.heap.size + 1) W0 w1) (h : Tp.size t ≤ 600) => text_any t a cap w1 (sz_le h) (htw w1 hb) (hgw w1 hb)
  have hwk := fun w1 (hb : Below (w.heap.size + 1) W0 w1) => wakes_any w1 (hgw w1 hb)
  obtain ⟨r1, hr1⟩ : ∃ x, Tp.right t = x := ⟨_, rfl⟩
  obtain ⟨c1, hc1⟩ : ∃ x, Tp.without 6 t = x := ⟨_, rfl⟩
  obtain ⟨s1, hs1⟩ : ∃ x, textOf t = x := ⟨_, rfl⟩
  have hsc : hv = false → r1 = true → c1 = true → ∃ L, scanAll s1 = .good L ∧ 0 < L.length ∧ L.length ≤ 100000 ∧ ∀ k, k ≤ L.length → (readOut (L.take k) 0 = (Nt.noT, k, 3) ∨ (0 < k ∧ ∃ u : T, 0 < u.kind ∧ readOut (L.take k) 0 = (u, k, 0))) := fun h1 h2 h3 => by
    obtain ⟨L, hL, hk, h0⟩ := tokens_of (hr1.trans h2) (hc1.trans h3) (hsz h1)
    rw [← hs1]
    unfold textOf
    rw [if_pos (hr1.trans h2)]
    exact ⟨L, hL, h0, scanAll_len hL, fun k hk2 => cut_read (hr1.trans h2) (hc1.trans h3) hk hk2⟩
  rw [hr1] at hra
  rw [hc1] at hca
  rw [hs1, hr1] at hta
  unfold tv at hra hca hta ⊢
  rw [hhv] at hhe
  simp only [hk0, hn0, hm0] at hra hca hta
  rw [hk0, hn0, hm0]
  have b0 := Below.refl (w.heap.size + 1) W0
  have HC := Lib.hid hcell; have HLE := Lib.hid hle; have HBW := Lib.hid hbw; have HHE := Lib.hid hhe; have HRA := Lib.hid hra; have HCA := Lib.hid hca; have HTA := Lib.hid hta; have HWK := Lib.hid hwk; have HSZ := Lib.hid hsz; have HB0 := Lib.hid b0; have HW0 := Lib.hid hW0
  have HSC := Lib.hid hsc; have HGW := Lib.hid hgw; have HX := Lib.hid hx
  have HK0 := Lib.hid hk0; have HN0 := Lib.hid hn0; have HM0 := Lib.hid hm0
  clear hcell hle hbw hhe hra hca hta hwk hsz b0 hW0 htw hgw hg hty hk0 hn0 hm0 hhv hr1 hc1 hs1 hsc hx
  go_enter Tryd.func6, Tryd.ntmps6
  go_upto_region 1 with fail
  rw [HW0.out]
  obtain ⟨d0, d1, d2⟩ := HC.out W0 HB0.out
  go_wp2_with fail
  refine (HHE.out _ HB0.out).mono ?_
  rintro e w1 ⟨rfl, hb1⟩
  have HB1 := Lib.hid ((HB0.out.alloc (HLE.out _ HB0.out) _).trans (hb1.mono (by rw [World.size_alloc]; have := HLE.out _ HB0.out; omega)))
  clear hb1 d0 d1 d2
  cases hv with
  | true =>
    go_wp2_with fail
    go_ret
    exact ⟨rfl, HBW.out _ HB1.out⟩
  | false =>
    have hz := HSZ.out rfl
    have HSC2 := Lib.hid (HSC.out rfl)
    clear HSC
    obtain ⟨d0, d1, d2⟩ := HC.out _ HB1.out
    go_wp2_with fail
    refine (HRA.out _ HB1.out).mono ?_
    rintro e w2 ⟨rfl, hb2⟩
    have HB2 := Lib.hid (HB1.out.trans (hb2.mono (HLE.out _ HB1.out)))
    clear hb2 d0 d1 d2
    cases r1 with
    | false =>
      go_wp2_with fail
      go_ret
      exact ⟨rfl, HBW.out _ HB2.out⟩
    | true =>
      obtain ⟨d0, d1, d2⟩ := HC.out _ HB2.out
      go_wp2_with fail
      refine (HCA.out _ HB2.out).mono ?_
      rintro e w3 ⟨rfl, hb3⟩
      have HB3 := Lib.hid (HB2.out.trans (hb3.mono (HLE.out _ HB2.out)))
      clear hb3 d0 d1 d2
      cases c1 with
      | false =>
        go_wp2_with fail
        go_ret
        exact ⟨rfl, HBW.out _ HB3.out⟩
      | true =>
        have HSC3 := Lib.hid (HSC2.out (by trivial) (by trivial))
        clear HSC2
        obtain ⟨d0, d1, d2⟩ := HC.out _ HB3.out
        go_wp2_with fail
        refine (HTA.out _ HB3.out hz).mono ?_
        rintro e w4 ⟨rfl, hb4⟩
        rw [show errOf true = 0 from rfl]
        have hb4' := HB3.out.trans (hb4.mono (HLE.out _ HB3.out))
        clear hb4 d0 d1 d2
        obtain ⟨L, hL, hL0, hL1, hrd⟩ := HSC3.out
        obtain ⟨cap1, w5, hcv, hH, hB⟩ := conv_bytes s1 w4
        have hb5 := hb4'.trans (hB.mono (HLE.out _ hb4'))
        have hss := scan_any _ cap1 _ w5 hH (HGW.out _ hb5)
        rw [hL] at hss
        obtain ⟨n, hn⟩ : ∃ n, s1.length = n := ⟨_, rfl⟩
        rw [hn] at hcv hss
        have HB5 := Lib.hid hb5; have HSS := Lib.hid hss; have HL0 := Lib.hid hL0; have HL1 := Lib.hid hL1; have HRD := Lib.hid hrd
        clear hb4' hb5 hss hL hL0 hL1 hrd hH hB hn HSC3
        go_wp2_with fail
        refine HSS.out.mono ?_
        rintro e w6 ⟨v, rfl, hown, hb6⟩
        obtain ⟨a6, cap6, rfl⟩ := own_shape' hown
        have ht := (tks_own hown).2
        have hcap := le_of_own hown
        have HB6 := Lib.hid (HB5.out.trans (hb6.mono (HLE.out _ HB5.out)))
        obtain ⟨k, hk, hki⟩ := kint_any x L.length w6 HL0.out HL1.out
        obtain ⟨a7, hsl, htk⟩ := toks_take a6 L.length cap6 k (by omega)
        have hlk : (L.take k).length = k := by rw [List.length_take]; omega
        have hl0 := HL0.out
        obtain ⟨ll, hll⟩ : ∃ ll, L.length = ll := ⟨_, rfl⟩
        rw [hll] at hki hsl hl0 ⊢
        have hle0 : ((ll : Int) == 0) = false := by rw [beq_eq_false_iff_ne]; omega
        have HT := Lib.hid (htk ht); have HKI := Lib.hid hki; have HLK := Lib.hid hlk
        have HKR := Lib.hid (HRD.out k (Nat.le_of_lt hk)); have HKL := Lib.hid (Nat.le_of_lt hk)
        clear hb6 hown ht hcap hki hlk hl0 htk hk hcv
        go_wp2_with fail
        refine HKI.out.mono ?_
        rintro e w7 ⟨rfl, hb7⟩
        have HB7 := Lib.hid (HB6.out.trans (hb7.mono (HLE.out _ HB6.out)))
        have hrd := read_any a7 cap6 (L.take k) 0 w7 (HT.out.later hb7) (by rw [HLK.out]; have := HL1.out; have := HKL.out; omega) (by unfold I64; omega) (HGW.out _ HB7.out)
        rw [HLK.out] at hrd
        clear hb7
        unfold ReadPost at hrd
        rcases HKR.out with hro | ⟨hk0, u, huk, hro⟩
        · rw [hro, show tv Nt.noT = fun a cap => Value.agg #[.int .i64 0, .int .i64 0, .slice a 0 cap] from rfl] at hrd
          have HRD2 := Lib.hid hrd
          clear hrd hro
          go_wp2_with fail
          refine HRD2.out.mono ?_
          rintro e w8 ⟨a8, cap8, rfl, hty8, hb8⟩
          have hb8' := HB7.out.trans (hb8.mono (HLE.out _ HB7.out))
          have hnw := World.alloc_heap_new w8 (.cells #[.int .i64 0, .int .i64 0, .slice a8 0 cap8] 24)
          have x0 : (w8.alloc (.cells #[.int .i64 0, .int .i64 0, .slice a8 0 cap8] 24)).cell? ⟨w8.heap.size, 0, none⟩ = some (.int .i64 0) := cell_box hnw rfl rfl
          have HB9 := Lib.hid (hb8'.alloc (HLE.out _ hb8') (.cells #[.int .i64 0, .int .i64 0, .slice a8 0 cap8] 24))
          clear hb8 hb8' hnw hty8 hsl
          go_wp2_with fail
          refine (HWK.out _ HB9.out).mono ?_
          rintro e wb ⟨rfl, hbb⟩
          have HBB := Lib.hid (HB9.out.trans (hbb.mono (HLE.out _ HB9.out)))
          clear hbb x0
          go_wp2_with fail
          go_ret
          exact ⟨rfl, HBW.out _ HBB.out⟩
        · obtain ⟨k8, hk8⟩ : ∃ q, u.kind = q := ⟨_, rfl⟩
          obtain ⟨n8, hn8⟩ : ∃ q, u.num = q := ⟨_, rfl⟩
          obtain ⟨m8, hm8⟩ : ∃ q, u.kids.length = q := ⟨_, rfl⟩
          rw [hk8] at huk
          rw [hro] at hrd
          unfold tv at hrd
          simp only [hk8, hn8, hm8] at hrd
          have HRD2 := Lib.hid hrd
          clear hrd hro hk8 hn8 hm8
          go_wp2_with fail
          refine HRD2.out.mono ?_
          rintro e w8 ⟨a8, cap8, rfl, hty8, hb8⟩
          have hb8' := HB7.out.trans (hb8.mono (HLE.out _ HB7.out))
          have hnw := World.alloc_heap_new w8 (.cells #[.int .i64 k8, .int .i64 n8, .slice a8 m8 cap8] 24)
          have x0 : (w8.alloc (.cells #[.int .i64 k8, .int .i64 n8, .slice a8 m8 cap8] 24)).cell? ⟨w8.heap.size, 0, none⟩ = some (.int .i64 k8) := cell_box hnw rfl rfl
          have HB9 := Lib.hid (hb8'.alloc (HLE.out _ hb8') (.cells #[.int .i64 k8, .int .i64 n8, .slice a8 m8 cap8] 24))
          have p1 : ((k : Int) > 0) := by omega
          have p2 : k8 > 0 := huk
          clear hb8 hb8' hnw hty8 hsl
          go_wp2_with fail
          refine (HWK.out _ HB9.out).mono ?_
          rintro e wb ⟨rfl, hbb⟩
          have HBB := Lib.hid (HB9.out.trans (hbb.mono (HLE.out _ HB9.out)))
          clear hbb x0
          go_wp2_with fail
          go_ret
          exact ⟨rfl, HBW.out _ HBB.out⟩
end Go.Proofs.YtideicoifinnoaaDoor
