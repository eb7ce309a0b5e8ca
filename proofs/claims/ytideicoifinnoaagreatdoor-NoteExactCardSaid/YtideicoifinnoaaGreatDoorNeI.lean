/- The law NoteExact: its walk. -/
import Derived.Test.YtideicoifinnoaaGreatDoorNeA
import Derived.Test.YtideicoifinnoaaGreatDoorNeC
import Derived.Test.YtideicoifinnoaaGreatDoorNlA
import Derived.Test.YtideicoifinnoaaGreatDoorBytes
import Derived.Test.YtideicoifinnoaaGreatDoorTkB
namespace Go.Proofs.YtideicoifinnoaaGreatDoor
open Go Go.RowKit
open Tp (T)

/-- A copy is a type of the call's own. -/
theorem ktype_tz (t : T) (a : Option Addr) (cap : Nat) (w : World) (h : Tp.size t ≤ 10000) (hty : TyAt (LT w.heap.size) w t a cap) :
    Calls Tryz.prog 5 #[tv t a cap] w fun e w' => ∃ a' cap', e = .returned (tv t a' cap') ∧ TyAt (LT w'.heap.size) w' t a' cap' ∧ Below w.heap.size w w' :=
  (ktype_any (Tp.size t) t a cap w (Nat.le_refl _) h hty).mono fun _ _ ⟨a', cap', _, h1, h2, h3, h4, h5, h6⟩ =>
    ⟨a', cap', h1, TyAt.below (TyPost.ty h2 h3 h4 h5) (Below.refl _ _) (fun _ h => h.2) (fun _ h => h.2), h6⟩
set_option maxRecDepth 100000 in
set_option maxHeartbeats 4000000 in
theorem walk_noteExact (t : T) (a : Option Addr) (cap : Nat) (x0 : Option Addr) (n9 c9 : Nat) (x : Int) (w : World) (hg : Good w) (hx : I64 x) (hty : TyAt (LT w.heap.size) w t a cap) (hby : BytesAt w x0 n9 c9) :
    Calls Tryz.prog 3 #[tv t a cap, .slice x0 n9 c9, .int .i64 x] w fun e w' => e = .returned (.bool true) ∧ Below w.heap.size w w' := by
  obtain ⟨k0, hk0⟩ : ∃ k0, t.kind = k0 := ⟨_, rfl⟩
  obtain ⟨n0, hn0⟩ : ∃ n0, t.num = n0 := ⟨_, rfl⟩
  obtain ⟨m0, hm0⟩ : ∃ m0, t.kids.length = m0 := ⟨_, rfl⟩
  obtain ⟨hv, hhv⟩ : ∃ hv, decide (600 < Tp.sizes [t]) = hv := ⟨_, rfl⟩
  obtain ⟨W0, hW0⟩ : ∃ W, w.alloc (.cells #[.int .i64 k0, .int .i64 n0, .slice a m0 cap] 24) = W := ⟨_, rfl⟩
  obtain ⟨hcell, htw, hle, hbw⟩ := box_facts hty (k := k0) (n := n0) (m := m0)
  rw [hW0] at hcell htw hle hbw
  have hgw := fun w1 (hb : Below (w.heap.size + 1) W0 w1) => hg.below (hbw w1 hb)
  have hhe := fun w1 (hb : Below (w.heap.size + 1) W0 w1) => heavy_any [t] (some ⟨w1.heap.size, 0, none⟩) 1 _ (by simp) (row_one (htw w1 hb) hk0 hn0 hm0)
  have hsz : hv = false → Tp.size t ≤ 600 := fun h => by
    rw [h, sizes_one] at hhv
    simp only [decide_eq_false_iff_not] at hhv
    omega
  have hra := fun w1 (hb : Below (w.heap.size + 1) W0 w1) => rright_any _ t a cap w1 (Nat.le_refl _) (htw w1 hb)
  have hwk := fun w1 (hb : Below (w.heap.size + 1) W0 w1) => wakes_any w1 (hgw w1 hb)
  obtain ⟨r1, hr1⟩ : ∃ x, Tp.right t = x := ⟨_, rfl⟩
  obtain ⟨s1, hs1⟩ : ∃ x, textOf t = x := ⟨_, rfl⟩
  obtain ⟨bs, hbs, hbh⟩ := hby.2.2.2
  have hho := fun w1 (hb : Below (w.heap.size + 1) W0 w1) => hbh.below (Nat.le_refl _) (hbw w1 hb)
  have hsm := fun w1 (hb : Below (w.heap.size + 1) W0 w1) a' cap' (hx : TyAt (LT w1.heap.size) w1 t a' cap') => ksame_any _ t t a' cap' a cap w1 (Nat.le_refl _) hx (htw w1 hb)
  simp only [Tp.same_refl] at hsm
  have hkt := fun w1 (hb : Below (w.heap.size + 1) W0 w1) (h : Tp.size t ≤ 600) => ktype_tz t a cap w1 (sz_le h) (htw w1 hb)
  have htx := fun w1 (hb : Below (w.heap.size + 1) W0 w1) (h : Tp.size t ≤ 600) a' cap' (hx : TyAt (LT w1.heap.size) w1 t a' cap') => text_any t a' cap' w1 (sz_le h) hx (hgw w1 hb)
  have hrt := fun w1 (hb : Below (w.heap.size + 1) W0 w1) (h : Tp.size t ≤ 600) (hr : Tp.right t = true) => rtext_any _ t a cap w1 (Nat.le_refl _) h hr (htw w1 hb)
  have hyes : r1 = true → Nt.text t = s1 := fun h => by rw [← hs1]; unfold textOf; rw [if_pos (hr1.trans h)]
  have hno : r1 = false → s1 = [] := fun h => by rw [← hs1]; unfold textOf; rw [if_neg (by rw [hr1, h]; simp)]
  rw [hr1] at hra
  simp only [hs1, hr1] at htx hrt
  unfold tv at hra hsm htx hkt hrt ⊢
  rw [hhv] at hhe
  simp only [hk0, hn0, hm0] at hra hsm htx hkt hrt
  rw [hk0, hn0, hm0]
  have b0 := Below.refl (w.heap.size + 1) W0
  have HC := Lib.hid hcell; have HLE := Lib.hid hle; have HBW := Lib.hid hbw; have HHE := Lib.hid hhe; have HRA := Lib.hid hra; have HTX := Lib.hid htx; have HKT := Lib.hid hkt; have HRT := Lib.hid hrt; have HYES := Lib.hid hyes; have HNO := Lib.hid hno; have HWK := Lib.hid hwk; have HSZ := Lib.hid hsz; have HB0 := Lib.hid b0; have HW0 := Lib.hid hW0
  have HSM := Lib.hid hsm; have HHO := Lib.hid hho; have HBS := Lib.hid hbs; have HGW := Lib.hid hgw; have HX := Lib.hid hx
  have HK0 := Lib.hid hk0; have HN0 := Lib.hid hn0; have HM0 := Lib.hid hm0
  clear hcell hle hbw hhe hra htx hkt hrt hyes hno hwk hsz b0 hW0 htw hgw hg hty hk0 hn0 hm0 hhv hr1 hs1 hsm hho hbs hbh hby hx
  go_enter Tryz.func3, Tryz.ntmps3
  go_upto_region 1 with fail
  rw [HW0.out]
  obtain ⟨d0, d1, d2⟩ := HC.out W0 HB0.out
  go_wp2_with fail
  refine (HHE.out _ HB0.out).mono ?_
  rintro e w1 ⟨rfl, hb1⟩
  have HB1 := Lib.hid ((HB0.out.alloc (HLE.out _ HB0.out) _).trans (hb1.mono (by rw [World.size_alloc]; have := HLE.out _ HB0.out; omega)))
  clear hb1 d0 d1 d2
  cases hv with
  | true =>
    go_wp2_with fail
    go_ret
    exact ⟨rfl, HBW.out _ HB1.out⟩
  | false =>
    have hz := HSZ.out rfl
    by_cases h5 : 2000 < n9
    · have h5' : (n9 : Int) > 2000 := by omega
      go_wp2_with fail
      go_ret
      exact ⟨rfl, HBW.out _ HB1.out⟩
    · have h5' : ¬ (n9 : Int) > 2000 := by omega
      obtain ⟨d0, d1, d2⟩ := HC.out _ HB1.out
      go_wp2_with fail
      refine (HKT.out _ HB1.out hz).mono ?_
      rintro e w2 ⟨aq, cq, rfl, hty2, hb2⟩
      clear d0 d1 d2
      obtain ⟨w3, hw3⟩ : ∃ w3, w2.alloc (.cells #[.int .i64 k0, .int .i64 n0, .slice aq m0 cq] 24) = w3 := ⟨_, rfl⟩
      have hal : Below w2.heap.size w2 w3 := by rw [← hw3]; exact (Below.refl _ _).alloc (Nat.le_refl _) _
      have hnw : w3.heap[w2.heap.size]? = some (.cells #[.int .i64 k0, .int .i64 n0, .slice aq m0 cq] 24 (0, 0)) := by rw [← hw3]; exact World.alloc_heap_new w2 _
      have hb13 := hb2.trans (hal.mono hb2.size)
      have HB3 := Lib.hid (HB1.out.trans (hb13.mono (HLE.out _ HB1.out))); have HTY3 := Lib.hid (ty_later hty2 hal); have HNW3 := Lib.hid hnw; have HW3 := Lib.hid hw3
      have y0 : w3.cell? ⟨w2.heap.size, 0, none⟩ = some (.int .i64 k0) := cell_box hnw rfl rfl
      have y1 : w3.cell? ⟨w2.heap.size, 1, none⟩ = some (.int .i64 n0) := cell_box hnw rfl rfl
      have y2 : w3.cell? ⟨w2.heap.size, 2, none⟩ = some (.slice aq m0 cq) := cell_box hnw rfl rfl
      clear hb2 hal hnw hb13 hty2 hw3
      go_upto_region 4 with fail
      rw [HW3.out]
      go_wp2_with fail
      refine (HTX.out _ HB3.out hz aq cq HTY3.out).mono ?_
      rintro e w4 ⟨rfl, hb4⟩
      clear y0 y1 y2
      have HB4 := Lib.hid (HB3.out.trans (hb4.mono (HLE.out _ HB3.out))); have H34 := Lib.hid hb4
      obtain ⟨d0, d1, d2⟩ := HC.out _ HB4.out
      clear hb4
      go_wp2_with fail
      refine (HRA.out _ HB4.out).mono ?_
      rintro e w5 ⟨rfl, hb5⟩
      clear d0 d1 d2
      have HB5 := Lib.hid (HB4.out.trans (hb5.mono (HLE.out _ HB4.out))); have H35 := Lib.hid (H34.out.trans (hb5.mono H34.out.size))
      clear hb5
      have hlt3 : w2.heap.size < w3.heap.size := (Array.getElem?_eq_some_iff.1 HNW3.out).1
      have HLT3 := Lib.hid hlt3
      clear hlt3
      cases r1 with
      | false =>
        obtain rfl := HNO.out rfl
        rw [show errOf false = 1 from rfl]
        have HBP := Lib.hid HB5.out
        have HTYP := Lib.hid (ty_later HTY3.out H35.out)
        obtain ⟨d0, d1, d2⟩ := HC.out _ HB5.out
        have y0 : w5.cell? ⟨w2.heap.size, 0, none⟩ = some (.int .i64 k0) := cell_box HNW3.out (H35.out.block _ HLT3.out) rfl
        have y1 : w5.cell? ⟨w2.heap.size, 1, none⟩ = some (.int .i64 n0) := cell_box HNW3.out (H35.out.block _ HLT3.out) rfl
        have y2 : w5.cell? ⟨w2.heap.size, 2, none⟩ = some (.slice aq m0 cq) := cell_box HNW3.out (H35.out.block _ HLT3.out) rfl
        go_wp2_with fail
        refine (HSM.out _ HBP.out aq cq HTYP.out).mono ?_
        rintro e wq ⟨rfl, hbq⟩
        have HBQ := Lib.hid (HBP.out.trans (hbq.mono (HLE.out _ HBP.out)))
        clear hbq d0 d1 d2 y0 y1 y2
        go_upto_region 10 with fail
        have hss := scan_any x0 c9 bs wq (HHO.out _ HBQ.out) (HGW.out _ HBQ.out)
        rw [HBS.out] at hss
        obtain ⟨R, hR⟩ : ∃ R, scanAll bs = R := ⟨_, rfl⟩
        rw [hR] at hss
        have HSS := Lib.hid hss
        clear hss
        cases R with
        | bad at_ =>
          clear hR
          go_wp2_with fail
          refine HSS.out.mono ?_
          rintro e w6 ⟨rfl, hb6⟩
          have HB6 := Lib.hid (HBQ.out.trans (hb6.mono (HLE.out _ HBQ.out)))
          clear hb6
          obtain ⟨L, hL⟩ : ∃ L : List Lx.Tok, L = [] := ⟨_, rfl⟩
          have ht : TksAt w6.heap.size w6 none L := .inl hL
          have hL1 : L.length ≤ 100000 := by rw [hL]; simp
          have hl0 : L.length = 0 := by rw [hL]; rfl
          obtain ⟨a6, ha6⟩ : ∃ a6 : Option Addr, a6 = none := ⟨_, rfl⟩
          obtain ⟨cap6, hc6⟩ : ∃ c : Nat, c = 0 := ⟨_, rfl⟩
          rw [← ha6] at ht ⊢
          clear hL
          have hrd := read_any a6 cap6 L x w6 ht hL1 HX.out (HGW.out _ HB6.out)
          have hrp := fun w1 (hb : Below w6.heap.size w6 w1) => rread_any a6 cap6 L x w1 (ht.later hb) hL1 HX.out
          unfold ReadPost at hrd hrp
          obtain ⟨⟨u3, n3, e3⟩, h3⟩ : ∃ r, readOut L x = r := ⟨_, rfl⟩
          simp only [h3] at hrd hrp
          obtain ⟨k3, hk3⟩ : ∃ q, u3.kind = q := ⟨_, rfl⟩
          obtain ⟨q3, hq3⟩ : ∃ q, u3.num = q := ⟨_, rfl⟩
          obtain ⟨m3, hm3⟩ : ∃ q, u3.kids.length = q := ⟨_, rfl⟩
          have hse := fun w1 a' c' b' d' (h1 : TyAt (LT w1.heap.size) w1 u3 a' c') (h2 : TyAt (LT w1.heap.size) w1 u3 b' d') => ksame_any _ u3 u3 a' c' b' d' w1 (Nat.le_refl _) h1 h2
          simp only [Tp.same_refl] at hse
          unfold tv at hrd hrp hse
          simp only [hk3, hq3, hm3] at hrd hrp hse
          obtain ⟨ll, hll⟩ : ∃ ll, L.length = ll := ⟨_, rfl⟩
          simp only [hll] at hrd hrp
          rw [hll] at hl0
          subst hl0
          subst hc6
          subst ha6
          have HRD := Lib.hid hrd; have HRP := Lib.hid hrp; have HSE := Lib.hid hse
          clear hrd hrp hse ht hL1 h3 hk3 hq3 hm3 hll
          go_wp2_with fail
          refine HRD.out.mono ?_
          rintro e w7 ⟨a7, c7, rfl, hty7, hb7⟩
          obtain ⟨w8, hw8⟩ : ∃ w8, w7.alloc (.cells #[.int .i64 k3, .int .i64 q3, .slice a7 m3 c7] 24) = w8 := ⟨_, rfl⟩
          have hal : Below w7.heap.size w7 w8 := by rw [← hw8]; exact (Below.refl _ _).alloc (Nat.le_refl _) _
          have hnw : w8.heap[w7.heap.size]? = some (.cells #[.int .i64 k3, .int .i64 q3, .slice a7 m3 c7] 24 (0, 0)) := by rw [← hw8]; exact World.alloc_heap_new w7 _
          have hb68 := hb7.trans (hal.mono hb7.size)
          have HB8 := Lib.hid (HB6.out.trans (hb68.mono (HLE.out _ HB6.out))); have HTY8 := Lib.hid (ty_later hty7 hal); have HNW := Lib.hid hnw; have HW8 := Lib.hid hw8
          have hrp := HRP.out w8 hb68
          have HRP8 := Lib.hid hrp
          clear hb7 hal hnw hb68 hty7 hw8 hrp
          go_upto_region 12 with fail
          rw [HW8.out]
          go_wp2_with fail
          refine HRP8.out.mono ?_
          rintro e w9 ⟨a9, c9', rfl, hty9, hb9⟩
          obtain ⟨wa, hwa⟩ : ∃ wa, w9.alloc (.cells #[.int .i64 k3, .int .i64 q3, .slice a9 m3 c9'] 24) = wa := ⟨_, rfl⟩
          have hal : Below w9.heap.size w9 wa := by rw [← hwa]; exact (Below.refl _ _).alloc (Nat.le_refl _) _
          have hnw : wa.heap[w9.heap.size]? = some (.cells #[.int .i64 k3, .int .i64 q3, .slice a9 m3 c9'] 24 (0, 0)) := by rw [← hwa]; exact World.alloc_heap_new w9 _
          have hb8a := hb9.trans (hal.mono hb9.size)
          have hlt : w7.heap.size < w8.heap.size := (Array.getElem?_eq_some_iff.1 HNW.out).1
          have x0 : wa.cell? ⟨w7.heap.size, 0, none⟩ = some (.int .i64 k3) := cell_box HNW.out (hb8a.block _ hlt) rfl
          have x1 : wa.cell? ⟨w7.heap.size, 1, none⟩ = some (.int .i64 q3) := cell_box HNW.out (hb8a.block _ hlt) rfl
          have x2 : wa.cell? ⟨w7.heap.size, 2, none⟩ = some (.slice a7 m3 c7) := cell_box HNW.out (hb8a.block _ hlt) rfl
          have y0 : wa.cell? ⟨w9.heap.size, 0, none⟩ = some (.int .i64 k3) := cell_box hnw rfl rfl
          have y1 : wa.cell? ⟨w9.heap.size, 1, none⟩ = some (.int .i64 q3) := cell_box hnw rfl rfl
          have y2 : wa.cell? ⟨w9.heap.size, 2, none⟩ = some (.slice a9 m3 c9') := cell_box hnw rfl rfl
          have hse := HSE.out wa a7 c7 a9 c9' (ty_later HTY8.out hb8a) (ty_later hty9 hal)
          have HBA := Lib.hid (HB8.out.trans (hb8a.mono (HLE.out _ HB8.out))); have HSEA := Lib.hid hse; have HWA := Lib.hid hwa
          clear hb9 hal hnw hb8a hlt hty9 hse hwa
          go_upto_region 13 with fail
          rw [HWA.out]
          go_wp2_with fail
          refine HSEA.out.mono ?_
          rintro e wc ⟨rfl, hbc⟩
          have HBC := Lib.hid (HBA.out.trans (hbc.mono (HLE.out _ HBA.out)))
          clear hbc x0 x1 x2 y0 y1 y2
          go_wp2_with fail
          refine (HWK.out _ HBC.out).mono ?_
          rintro e wb ⟨rfl, hbb⟩
          have HBB := Lib.hid (HBC.out.trans (hbb.mono (HLE.out _ HBC.out)))
          clear hbb
          go_wp2_with fail
          go_ret
          exact ⟨rfl, HBW.out _ HBB.out⟩
        | good L =>
          have hL1 := scanAll_len hR
          clear hR
          go_wp2_with fail
          refine HSS.out.mono ?_
          rintro e w6 ⟨v6, rfl, hown6, hb6⟩
          have HB6 := Lib.hid (HBQ.out.trans (hb6.mono (HLE.out _ HBQ.out)))
          obtain ⟨a6, cap6, rfl⟩ := own_shape' hown6
          have ht := (tks_own hown6).2
          clear hown6 hb6
          have hrd := read_any a6 cap6 L x w6 ht hL1 HX.out (HGW.out _ HB6.out)
          have hrp := fun w1 (hb : Below w6.heap.size w6 w1) => rread_any a6 cap6 L x w1 (ht.later hb) hL1 HX.out
          unfold ReadPost at hrd hrp
          obtain ⟨⟨u3, n3, e3⟩, h3⟩ : ∃ r, readOut L x = r := ⟨_, rfl⟩
          simp only [h3] at hrd hrp
          obtain ⟨k3, hk3⟩ : ∃ q, u3.kind = q := ⟨_, rfl⟩
          obtain ⟨q3, hq3⟩ : ∃ q, u3.num = q := ⟨_, rfl⟩
          obtain ⟨m3, hm3⟩ : ∃ q, u3.kids.length = q := ⟨_, rfl⟩
          have hse := fun w1 a' c' b' d' (h1 : TyAt (LT w1.heap.size) w1 u3 a' c') (h2 : TyAt (LT w1.heap.size) w1 u3 b' d') => ksame_any _ u3 u3 a' c' b' d' w1 (Nat.le_refl _) h1 h2
          simp only [Tp.same_refl] at hse
          unfold tv at hrd hrp hse
          simp only [hk3, hq3, hm3] at hrd hrp hse
          obtain ⟨ll, hll⟩ : ∃ ll, L.length = ll := ⟨_, rfl⟩
          simp only [hll] at hrd hrp
          rw [hll]
          have HRD := Lib.hid hrd; have HRP := Lib.hid hrp; have HSE := Lib.hid hse
          clear hrd hrp hse ht hL1 h3 hk3 hq3 hm3 hll
          go_wp2_with fail
          refine HRD.out.mono ?_
          rintro e w7 ⟨a7, c7, rfl, hty7, hb7⟩
          obtain ⟨w8, hw8⟩ : ∃ w8, w7.alloc (.cells #[.int .i64 k3, .int .i64 q3, .slice a7 m3 c7] 24) = w8 := ⟨_, rfl⟩
          have hal : Below w7.heap.size w7 w8 := by rw [← hw8]; exact (Below.refl _ _).alloc (Nat.le_refl _) _
          have hnw : w8.heap[w7.heap.size]? = some (.cells #[.int .i64 k3, .int .i64 q3, .slice a7 m3 c7] 24 (0, 0)) := by rw [← hw8]; exact World.alloc_heap_new w7 _
          have hb68 := hb7.trans (hal.mono hb7.size)
          have HB8 := Lib.hid (HB6.out.trans (hb68.mono (HLE.out _ HB6.out))); have HTY8 := Lib.hid (ty_later hty7 hal); have HNW := Lib.hid hnw; have HW8 := Lib.hid hw8
          have hrp := HRP.out w8 hb68
          have HRP8 := Lib.hid hrp
          clear hb7 hal hnw hb68 hty7 hw8 hrp
          go_upto_region 12 with fail
          rw [HW8.out]
          go_wp2_with fail
          refine HRP8.out.mono ?_
          rintro e w9 ⟨a9, c9', rfl, hty9, hb9⟩
          obtain ⟨wa, hwa⟩ : ∃ wa, w9.alloc (.cells #[.int .i64 k3, .int .i64 q3, .slice a9 m3 c9'] 24) = wa := ⟨_, rfl⟩
          have hal : Below w9.heap.size w9 wa := by rw [← hwa]; exact (Below.refl _ _).alloc (Nat.le_refl _) _
          have hnw : wa.heap[w9.heap.size]? = some (.cells #[.int .i64 k3, .int .i64 q3, .slice a9 m3 c9'] 24 (0, 0)) := by rw [← hwa]; exact World.alloc_heap_new w9 _
          have hb8a := hb9.trans (hal.mono hb9.size)
          have hlt : w7.heap.size < w8.heap.size := (Array.getElem?_eq_some_iff.1 HNW.out).1
          have x0 : wa.cell? ⟨w7.heap.size, 0, none⟩ = some (.int .i64 k3) := cell_box HNW.out (hb8a.block _ hlt) rfl
          have x1 : wa.cell? ⟨w7.heap.size, 1, none⟩ = some (.int .i64 q3) := cell_box HNW.out (hb8a.block _ hlt) rfl
          have x2 : wa.cell? ⟨w7.heap.size, 2, none⟩ = some (.slice a7 m3 c7) := cell_box HNW.out (hb8a.block _ hlt) rfl
          have y0 : wa.cell? ⟨w9.heap.size, 0, none⟩ = some (.int .i64 k3) := cell_box hnw rfl rfl
          have y1 : wa.cell? ⟨w9.heap.size, 1, none⟩ = some (.int .i64 q3) := cell_box hnw rfl rfl
          have y2 : wa.cell? ⟨w9.heap.size, 2, none⟩ = some (.slice a9 m3 c9') := cell_box hnw rfl rfl
          have hse := HSE.out wa a7 c7 a9 c9' (ty_later HTY8.out hb8a) (ty_later hty9 hal)
          have HBA := Lib.hid (HB8.out.trans (hb8a.mono (HLE.out _ HB8.out))); have HSEA := Lib.hid hse; have HWA := Lib.hid hwa
          clear hb9 hal hnw hb8a hlt hty9 hse hwa
          go_upto_region 13 with fail
          rw [HWA.out]
          go_wp2_with fail
          refine HSEA.out.mono ?_
          rintro e wc ⟨rfl, hbc⟩
          have HBC := Lib.hid (HBA.out.trans (hbc.mono (HLE.out _ HBA.out)))
          clear hbc x0 x1 x2 y0 y1 y2
          go_wp2_with fail
          refine (HWK.out _ HBC.out).mono ?_
          rintro e wb ⟨rfl, hbb⟩
          have HBB := Lib.hid (HBC.out.trans (hbb.mono (HLE.out _ HBC.out)))
          clear hbb
          go_wp2_with fail
          go_ret
          exact ⟨rfl, HBW.out _ HBB.out⟩
      | true =>
        rw [show errOf true = 0 from rfl]
        obtain ⟨d0, d1, d2⟩ := HC.out _ HB5.out
        have hrt := HRT.out _ HB5.out hz (by trivial)
        rw [HYES.out (by trivial)] at hrt
        have HRT5 := Lib.hid hrt
        clear hrt
        go_wp2_with fail
        refine HRT5.out.mono ?_
        rintro e wp ⟨rfl, hbp⟩
        clear d0 d1 d2
        have HBP := Lib.hid (HB5.out.trans (hbp.mono (HLE.out _ HB5.out)))
        have h3p := H35.out.trans (hbp.mono H35.out.size)
        have HTYP := Lib.hid (ty_later HTY3.out h3p)
        obtain ⟨d0, d1, d2⟩ := HC.out _ HBP.out
        have y0 : wp.cell? ⟨w2.heap.size, 0, none⟩ = some (.int .i64 k0) := cell_box HNW3.out (h3p.block _ HLT3.out) rfl
        have y1 : wp.cell? ⟨w2.heap.size, 1, none⟩ = some (.int .i64 n0) := cell_box HNW3.out (h3p.block _ HLT3.out) rfl
        have y2 : wp.cell? ⟨w2.heap.size, 2, none⟩ = some (.slice aq m0 cq) := cell_box HNW3.out (h3p.block _ HLT3.out) rfl
        clear hbp h3p
        go_wp2_with fail
        refine (HSM.out _ HBP.out aq cq HTYP.out).mono ?_
        rintro e wq ⟨rfl, hbq⟩
        have HBQ := Lib.hid (HBP.out.trans (hbq.mono (HLE.out _ HBP.out)))
        clear hbq d0 d1 d2 y0 y1 y2
        go_upto_region 10 with fail
        have hss := scan_any x0 c9 bs wq (HHO.out _ HBQ.out) (HGW.out _ HBQ.out)
        rw [HBS.out] at hss
        obtain ⟨R, hR⟩ : ∃ R, scanAll bs = R := ⟨_, rfl⟩
        rw [hR] at hss
        have HSS := Lib.hid hss
        clear hss
        cases R with
        | bad at_ =>
          clear hR
          go_wp2_with fail
          refine HSS.out.mono ?_
          rintro e w6 ⟨rfl, hb6⟩
          have HB6 := Lib.hid (HBQ.out.trans (hb6.mono (HLE.out _ HBQ.out)))
          clear hb6
          obtain ⟨L, hL⟩ : ∃ L : List Lx.Tok, L = [] := ⟨_, rfl⟩
          have ht : TksAt w6.heap.size w6 none L := .inl hL
          have hL1 : L.length ≤ 100000 := by rw [hL]; simp
          have hl0 : L.length = 0 := by rw [hL]; rfl
          obtain ⟨a6, ha6⟩ : ∃ a6 : Option Addr, a6 = none := ⟨_, rfl⟩
          obtain ⟨cap6, hc6⟩ : ∃ c : Nat, c = 0 := ⟨_, rfl⟩
          rw [← ha6] at ht ⊢
          clear hL
          have hrd := read_any a6 cap6 L x w6 ht hL1 HX.out (HGW.out _ HB6.out)
          have hrp := fun w1 (hb : Below w6.heap.size w6 w1) => rread_any a6 cap6 L x w1 (ht.later hb) hL1 HX.out
          unfold ReadPost at hrd hrp
          obtain ⟨⟨u3, n3, e3⟩, h3⟩ : ∃ r, readOut L x = r := ⟨_, rfl⟩
          simp only [h3] at hrd hrp
          obtain ⟨k3, hk3⟩ : ∃ q, u3.kind = q := ⟨_, rfl⟩
          obtain ⟨q3, hq3⟩ : ∃ q, u3.num = q := ⟨_, rfl⟩
          obtain ⟨m3, hm3⟩ : ∃ q, u3.kids.length = q := ⟨_, rfl⟩
          have hse := fun w1 a' c' b' d' (h1 : TyAt (LT w1.heap.size) w1 u3 a' c') (h2 : TyAt (LT w1.heap.size) w1 u3 b' d') => ksame_any _ u3 u3 a' c' b' d' w1 (Nat.le_refl _) h1 h2
          simp only [Tp.same_refl] at hse
          unfold tv at hrd hrp hse
          simp only [hk3, hq3, hm3] at hrd hrp hse
          obtain ⟨ll, hll⟩ : ∃ ll, L.length = ll := ⟨_, rfl⟩
          simp only [hll] at hrd hrp
          rw [hll] at hl0
          subst hl0
          subst hc6
          subst ha6
          have HRD := Lib.hid hrd; have HRP := Lib.hid hrp; have HSE := Lib.hid hse
          clear hrd hrp hse ht hL1 h3 hk3 hq3 hm3 hll
          go_wp2_with fail
          refine HRD.out.mono ?_
          rintro e w7 ⟨a7, c7, rfl, hty7, hb7⟩
          obtain ⟨w8, hw8⟩ : ∃ w8, w7.alloc (.cells #[.int .i64 k3, .int .i64 q3, .slice a7 m3 c7] 24) = w8 := ⟨_, rfl⟩
          have hal : Below w7.heap.size w7 w8 := by rw [← hw8]; exact (Below.refl _ _).alloc (Nat.le_refl _) _
          have hnw : w8.heap[w7.heap.size]? = some (.cells #[.int .i64 k3, .int .i64 q3, .slice a7 m3 c7] 24 (0, 0)) := by rw [← hw8]; exact World.alloc_heap_new w7 _
          have hb68 := hb7.trans (hal.mono hb7.size)
          have HB8 := Lib.hid (HB6.out.trans (hb68.mono (HLE.out _ HB6.out))); have HTY8 := Lib.hid (ty_later hty7 hal); have HNW := Lib.hid hnw; have HW8 := Lib.hid hw8
          have hrp := HRP.out w8 hb68
          have HRP8 := Lib.hid hrp
          clear hb7 hal hnw hb68 hty7 hw8 hrp
          go_upto_region 12 with fail
          rw [HW8.out]
          go_wp2_with fail
          refine HRP8.out.mono ?_
          rintro e w9 ⟨a9, c9', rfl, hty9, hb9⟩
          obtain ⟨wa, hwa⟩ : ∃ wa, w9.alloc (.cells #[.int .i64 k3, .int .i64 q3, .slice a9 m3 c9'] 24) = wa := ⟨_, rfl⟩
          have hal : Below w9.heap.size w9 wa := by rw [← hwa]; exact (Below.refl _ _).alloc (Nat.le_refl _) _
          have hnw : wa.heap[w9.heap.size]? = some (.cells #[.int .i64 k3, .int .i64 q3, .slice a9 m3 c9'] 24 (0, 0)) := by rw [← hwa]; exact World.alloc_heap_new w9 _
          have hb8a := hb9.trans (hal.mono hb9.size)
          have hlt : w7.heap.size < w8.heap.size := (Array.getElem?_eq_some_iff.1 HNW.out).1
          have x0 : wa.cell? ⟨w7.heap.size, 0, none⟩ = some (.int .i64 k3) := cell_box HNW.out (hb8a.block _ hlt) rfl
          have x1 : wa.cell? ⟨w7.heap.size, 1, none⟩ = some (.int .i64 q3) := cell_box HNW.out (hb8a.block _ hlt) rfl
          have x2 : wa.cell? ⟨w7.heap.size, 2, none⟩ = some (.slice a7 m3 c7) := cell_box HNW.out (hb8a.block _ hlt) rfl
          have y0 : wa.cell? ⟨w9.heap.size, 0, none⟩ = some (.int .i64 k3) := cell_box hnw rfl rfl
          have y1 : wa.cell? ⟨w9.heap.size, 1, none⟩ = some (.int .i64 q3) := cell_box hnw rfl rfl
          have y2 : wa.cell? ⟨w9.heap.size, 2, none⟩ = some (.slice a9 m3 c9') := cell_box hnw rfl rfl
          have hse := HSE.out wa a7 c7 a9 c9' (ty_later HTY8.out hb8a) (ty_later hty9 hal)
          have HBA := Lib.hid (HB8.out.trans (hb8a.mono (HLE.out _ HB8.out))); have HSEA := Lib.hid hse; have HWA := Lib.hid hwa
          clear hb9 hal hnw hb8a hlt hty9 hse hwa
          go_upto_region 13 with fail
          rw [HWA.out]
          go_wp2_with fail
          refine HSEA.out.mono ?_
          rintro e wc ⟨rfl, hbc⟩
          have HBC := Lib.hid (HBA.out.trans (hbc.mono (HLE.out _ HBA.out)))
          clear hbc x0 x1 x2 y0 y1 y2
          go_wp2_with fail
          refine (HWK.out _ HBC.out).mono ?_
          rintro e wb ⟨rfl, hbb⟩
          have HBB := Lib.hid (HBC.out.trans (hbb.mono (HLE.out _ HBC.out)))
          clear hbb
          go_wp2_with fail
          go_ret
          exact ⟨rfl, HBW.out _ HBB.out⟩
        | good L =>
          have hL1 := scanAll_len hR
          clear hR
          go_wp2_with fail
          refine HSS.out.mono ?_
          rintro e w6 ⟨v6, rfl, hown6, hb6⟩
          have HB6 := Lib.hid (HBQ.out.trans (hb6.mono (HLE.out _ HBQ.out)))
          obtain ⟨a6, cap6, rfl⟩ := own_shape' hown6
          have ht := (tks_own hown6).2
          clear hown6 hb6
          have hrd := read_any a6 cap6 L x w6 ht hL1 HX.out (HGW.out _ HB6.out)
          have hrp := fun w1 (hb : Below w6.heap.size w6 w1) => rread_any a6 cap6 L x w1 (ht.later hb) hL1 HX.out
          unfold ReadPost at hrd hrp
          obtain ⟨⟨u3, n3, e3⟩, h3⟩ : ∃ r, readOut L x = r := ⟨_, rfl⟩
          simp only [h3] at hrd hrp
          obtain ⟨k3, hk3⟩ : ∃ q, u3.kind = q := ⟨_, rfl⟩
          obtain ⟨q3, hq3⟩ : ∃ q, u3.num = q := ⟨_, rfl⟩
          obtain ⟨m3, hm3⟩ : ∃ q, u3.kids.length = q := ⟨_, rfl⟩
          have hse := fun w1 a' c' b' d' (h1 : TyAt (LT w1.heap.size) w1 u3 a' c') (h2 : TyAt (LT w1.heap.size) w1 u3 b' d') => ksame_any _ u3 u3 a' c' b' d' w1 (Nat.le_refl _) h1 h2
          simp only [Tp.same_refl] at hse
          unfold tv at hrd hrp hse
          simp only [hk3, hq3, hm3] at hrd hrp hse
          obtain ⟨ll, hll⟩ : ∃ ll, L.length = ll := ⟨_, rfl⟩
          simp only [hll] at hrd hrp
          rw [hll]
          have HRD := Lib.hid hrd; have HRP := Lib.hid hrp; have HSE := Lib.hid hse
          clear hrd hrp hse ht hL1 h3 hk3 hq3 hm3 hll
          go_wp2_with fail
          refine HRD.out.mono ?_
          rintro e w7 ⟨a7, c7, rfl, hty7, hb7⟩
          obtain ⟨w8, hw8⟩ : ∃ w8, w7.alloc (.cells #[.int .i64 k3, .int .i64 q3, .slice a7 m3 c7] 24) = w8 := ⟨_, rfl⟩
          have hal : Below w7.heap.size w7 w8 := by rw [← hw8]; exact (Below.refl _ _).alloc (Nat.le_refl _) _
          have hnw : w8.heap[w7.heap.size]? = some (.cells #[.int .i64 k3, .int .i64 q3, .slice a7 m3 c7] 24 (0, 0)) := by rw [← hw8]; exact World.alloc_heap_new w7 _
          have hb68 := hb7.trans (hal.mono hb7.size)
          have HB8 := Lib.hid (HB6.out.trans (hb68.mono (HLE.out _ HB6.out))); have HTY8 := Lib.hid (ty_later hty7 hal); have HNW := Lib.hid hnw; have HW8 := Lib.hid hw8
          have hrp := HRP.out w8 hb68
          have HRP8 := Lib.hid hrp
          clear hb7 hal hnw hb68 hty7 hw8 hrp
          go_upto_region 12 with fail
          rw [HW8.out]
          go_wp2_with fail
          refine HRP8.out.mono ?_
          rintro e w9 ⟨a9, c9', rfl, hty9, hb9⟩
          obtain ⟨wa, hwa⟩ : ∃ wa, w9.alloc (.cells #[.int .i64 k3, .int .i64 q3, .slice a9 m3 c9'] 24) = wa := ⟨_, rfl⟩
          have hal : Below w9.heap.size w9 wa := by rw [← hwa]; exact (Below.refl _ _).alloc (Nat.le_refl _) _
          have hnw : wa.heap[w9.heap.size]? = some (.cells #[.int .i64 k3, .int .i64 q3, .slice a9 m3 c9'] 24 (0, 0)) := by rw [← hwa]; exact World.alloc_heap_new w9 _
          have hb8a := hb9.trans (hal.mono hb9.size)
          have hlt : w7.heap.size < w8.heap.size := (Array.getElem?_eq_some_iff.1 HNW.out).1
          have x0 : wa.cell? ⟨w7.heap.size, 0, none⟩ = some (.int .i64 k3) := cell_box HNW.out (hb8a.block _ hlt) rfl
          have x1 : wa.cell? ⟨w7.heap.size, 1, none⟩ = some (.int .i64 q3) := cell_box HNW.out (hb8a.block _ hlt) rfl
          have x2 : wa.cell? ⟨w7.heap.size, 2, none⟩ = some (.slice a7 m3 c7) := cell_box HNW.out (hb8a.block _ hlt) rfl
          have y0 : wa.cell? ⟨w9.heap.size, 0, none⟩ = some (.int .i64 k3) := cell_box hnw rfl rfl
          have y1 : wa.cell? ⟨w9.heap.size, 1, none⟩ = some (.int .i64 q3) := cell_box hnw rfl rfl
          have y2 : wa.cell? ⟨w9.heap.size, 2, none⟩ = some (.slice a9 m3 c9') := cell_box hnw rfl rfl
          have hse := HSE.out wa a7 c7 a9 c9' (ty_later HTY8.out hb8a) (ty_later hty9 hal)
          have HBA := Lib.hid (HB8.out.trans (hb8a.mono (HLE.out _ HB8.out))); have HSEA := Lib.hid hse; have HWA := Lib.hid hwa
          clear hb9 hal hnw hb8a hlt hty9 hse hwa
          go_upto_region 13 with fail
          rw [HWA.out]
          go_wp2_with fail
          refine HSEA.out.mono ?_
          rintro e wc ⟨rfl, hbc⟩
          have HBC := Lib.hid (HBA.out.trans (hbc.mono (HLE.out _ HBA.out)))
          clear hbc x0 x1 x2 y0 y1 y2
          go_wp2_with fail
          refine (HWK.out _ HBC.out).mono ?_
          rintro e wb ⟨rfl, hbb⟩
          have HBB := Lib.hid (HBC.out.trans (hbb.mono (HLE.out _ HBC.out)))
          clear hbb
          go_wp2_with fail
          go_ret
          exact ⟨rfl, HBW.out _ HBB.out⟩
end Go.Proofs.YtideicoifinnoaaGreatDoor
