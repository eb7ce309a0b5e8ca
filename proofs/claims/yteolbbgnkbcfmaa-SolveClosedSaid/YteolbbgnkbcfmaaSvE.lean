/- solve.work.like: a node of another one's kind with new variables as kids. -/
import Derived.Test.YteolbbgnkbcfmaaSvD
import Derived.Test.YteolbbgnkbcfmaaSeqR
import Derived.Test.YteolbbgnkbcfmaaStY
namespace Go.Proofs.Yteolbbgnkbcfmaa
open Go Go.RowKit Go.Shelf
open Tp (T)
open Sg (Of Rt Den Dens Alk Mkd trav travs rootOf kidsOf)
/-- What calls of the store leave. -/
def RK (s g : Nat) (x y : World) : Prop := Kp x.heap.size (fun k => k = s ∨ k = g) x y
theorem RK.refl {s g : Nat} (x : World) : RK s g x x := Kp.refl _ _ _
theorem RK.trans {s g : Nat} {x y z : World} (h : RK s g x y) (k : RK s g y z) : RK s g x z := Kp.trans h (Kp.mono k (Kp.size h) (fun _ _ h => h))
/-- A new variable. -/
def vnd (lev : Int) (i : Nat) : SNd := ⟨⟨6, lev, 0, 0, 0⟩, i⟩
def vns (H : List SNd) (lev : Int) : Nat → List SNd
  | 0 => H
  | j + 1 => vns H lev j ++ [vnd lev (vns H lev j).length]
theorem vns_len (H : List SNd) (lev : Int) : ∀ j, (vns H lev j).length = H.length + j
  | 0 => rfl
  | j + 1 => by rw [vns, List.length_append, vns_len H lev j]; rfl
theorem vns_get {H : List SNd} {lev : Int} : ∀ {j i : Nat} {d : SNd}, H[i]? = some d → (vns H lev j)[i]? = some d
  | 0, _, _, h => h
  | j + 1, i, d, h => by rw [vns, List.getElem?_append_left (List.getElem?_eq_some_iff.1 (vns_get (j := j) h)).1]; exact vns_get h
/-- The store with a node like one of a kind. -/
def likeH (H : List SNd) (k lev : Int) : List SNd := vns H lev (ar k) ++ [⟨⟨k, 0, (H.length : Int), if ar k = 2 then ((H.length + 1 : Nat) : Int) else 0, 0⟩, H.length + ar k⟩]
section
variable {Bs b s : Nat} {oa : Option Addr} {oc mb mc nd ns : Nat} {w : World} {P : List Pr} {D : List (Nat × Nat)} {S : IMap}
variable {Bv g cap : Nat} {L C K : Int} {H : List SNd}
def c0K (H : List SNd) (j : Nat) : Int := if 0 < j then (H.length : Int) else 0
def c1K (H : List SNd) (j : Nat) : Int := if 1 < j then ((H.length + 1 : Nat) : Int) else 0
def LiP (Bv s g : Nat) (L C K : Int) (H : List SNd) (k lev : Int) (w : World) (e : Ending) (w' : World) : Prop := ∃ g' cap', e = .returned (.tuple #[.int .i64 ((H.length + ar k : Nat) : Int), .int .i64 0]) ∧ SV Bv s g' cap' L (C + (ar k : Int) + 1) K w' (likeH H k lev) ∧ Kp w.heap.size (fun k => k = s ∨ k = g) w w' ∧ (g' = g ∨ w.heap.size ≤ g')
set_option maxRecDepth 100000 in
set_option maxHeartbeats 4000000 in
theorem like13_any (h : WK Bs b s oa oc mb mc nd ns w P D S) (hsv : SV Bv s g cap L C K w H) (hB : Bds L C H) {n : Nat} {d r : SNd} (hd : H[n]? = some d) (hr : H[d.up]? = some r) (h0 : 0 < ar r.c.kind) (lev : Int) (hlev : 0 ≤ lev) (hC : C + 3 ≤ L) :
    Calls Try.prog 122 #[.pointer (some ⟨b, 0, none⟩), .int .i64 (n : Int), .int .i64 lev] w (LiP Bv s g L C K H r.c.kind lev w) := by
  obtain ⟨q, hq⟩ : ∃ q, d.up = q := ⟨_, rfl⟩
  obtain ⟨kk, hkk⟩ : ∃ k, r.c.kind = k := ⟨_, rfl⟩
  obtain ⟨m, hm⟩ : ∃ m, ar kk = m := ⟨_, rfl⟩
  have hm2 : m ≤ 2 := by rw [← hm]; exact ar_le kk
  rw [hkk] at h0 ⊢
  rw [hm] at h0
  obtain ⟨W1, hW1⟩ : ∃ W, w.alloc (.cells #[.int .i64 0, .int .i64 0] 86) = W := ⟨_, rfl⟩
  have hb1 : Below w.heap.size w W1 := by rw [← hW1]; exact (Below.refl _ _).alloc (Nat.le_refl _) _
  have hx1 : W1.heap[w.heap.size]? = some (.cells #[.int .i64 0, .int .i64 0] 86) := by rw [← hW1]; exact World.alloc_heap_new w _
  have hz1 : W1.heap.size = w.heap.size + 1 := by rw [← hW1, World.size_alloc]
  have hap := h.apart hsv (i := b) (.inl rfl)
  have hbl := (h.lt (i := b) (.inl rfl)).2
  have hf := hsv.far
  have hbx : W1.heap[b]? = _ := (hb1.block b hbl).trans h.box
  have b0 : W1.cell? ⟨b, 0, none⟩ = some (.pointer (some ⟨s, 0, none⟩)) := cell_box hbx rfl rfl
  have hki := skids12_any (hsv.below hb1) hd hr
  rw [hkk] at hki
  obtain ⟨l, hl⟩ : ∃ l, kidL kk r.c.a r.c.b = l := ⟨_, rfl⟩
  have hll : l.length = m := by rw [← hl, kidL_len, hm]
  rw [hl] at hki
  have HKI := Lib.hid hki; have HW1 := Lib.hid hW1; have HB1 := Lib.hid hb1; have HX1 := Lib.hid hx1; have HZ1 := Lib.hid hz1; have HAP := Lib.hid hap; have HBL := Lib.hid hbl; have HF := Lib.hid hf; have HBX := Lib.hid hbx; have HLL := Lib.hid hll; have HM := Lib.hid hm; have HM2 := Lib.hid hm2; have H0 := Lib.hid h0; have HB := Lib.hid hB; have HC := Lib.hid hC; have HLEV := Lib.hid hlev; have HD := Lib.hid hd; have HR := Lib.hid hr; have HKK := Lib.hid hkk; have HQ := Lib.hid hq; have HB1B := Lib.hid (hb1.block b hbl)
  clear hki hW1 hb1 hx1 hz1 hap hbl hf hbx hl hll hm hm2 h0 hB hC hlev hd hr hkk hq h hsv
  go_enter Try.func122, Try.ntmps122
  go_upto_region 2 with fail
  rw [HW1.out]
  go_wp2_with fail
  refine HKI.out.mono ?_
  clear b0
  rintro e w2 ⟨a2, c2, rfl, hir, hsv, hk⟩
  rw [HLL.out]
  have hz2 := hk.size; have hz1 := HZ1.out; have hap := HAP.out; have hbl := HBL.out; have hf := HF.out
  have hx2 : w2.heap[w.heap.size]? = some (.cells #[.int .i64 0, .int .i64 0] 86) := hk.heap HX1.out (by omega) (by omega)
  have hbx2 := hk.heap HBX.out (by omega) (by omega)
  have HK2 := Lib.hid ((Kp.of_below (M := fun k => k = s ∨ k = g) HB1.out).trans (hk.mono HB1.out.size (fun _ _ h => .inr h)))
  have HX2 := Lib.hid hx2; have HBX2 := Lib.hid hbx2; have S2 := Lib.hid hsv; have HZ2 := Lib.hid hz2
  clear hx2 hbx2 hsv hk hir hz2 hz1 hap hbl hf
  go_wp2_with fail
  go_loopg [9, 10, 11, 19] m (fun gk v9 v10 v11 v19 wr => ∃ (j gj cj : Nat), j ≤ m ∧ v19 = .int .i64 (j : Int) ∧ SV Bv s gj cj L (C + (j : Int)) K wr (vns H lev j) ∧ Kp w.heap.size (fun k => k = s ∨ k = g) w wr ∧ (gj = g ∨ w.heap.size ≤ gj) ∧ gj ≠ w.heap.size ∧ wr.heap[w.heap.size]? = some (.cells #[.int .i64 (c0K H j), .int .i64 (c1K H j)] 86) ∧ w2.heap.size ≤ wr.heap.size ∧ gk = m - j)
  case atStart => exact ⟨0, g, cap, Nat.zero_le _, rfl, by simpa [vns] using S2.out, HK2.out, .inl rfl, by have := HF.out; omega, HX2.out, Nat.le_refl _, rfl⟩
  case round =>
  obtain ⟨j, gj, cj, hjm, rfl, hsv, hk, hgj, hgx, hx', hzr, rfl⟩ := hrel
  have hz1 := HZ1.out; have hap := HAP.out; have hbl := HBL.out; have hf := HF.out; have hz2 := HZ2.out; have hm2 := HM2.out; have hcc := HC.out
  have hbxr := hk.block b hbl (by omega)
  have hbxr2 : wr.heap[b]? = some (.cells #[.pointer (some ⟨s, 0, none⟩), .slice oa P.length oc, .map (some mb), .map (some mc)] 117) := hbxr.trans (HB1B.out.symm.trans HBX.out)
  have b0 : wr.cell? ⟨b, 0, none⟩ = some (.pointer (some ⟨s, 0, none⟩)) := cell_box hbxr2 rfl rfl
  have hbdj : Bds L (C + (j : Int)) (vns H lev j) := by
    obtain ⟨q1, q2, q3, q4⟩ := HB.out
    exact ⟨by omega, by omega, q3, by rw [vns_len]; omega⟩
  by_cases hlt : j < m
  · have hva := var12_any hsv hbdj lev HLEV.out (by omega)
    rw [vns_len] at hva
    obtain ⟨p1, p2⟩ := pt_int hlt
    obtain ⟨p3, p4⟩ := pt_int (show j < 2 by omega)
    have hjw : wrap64 ((j : Int) + 1) = ((j + 1 : Nat) : Int) := by unfold wrap64; omega
    have hfx : ∀ i, wr.frozen? ⟨w.heap.size, i, none⟩ = false := fun i => by simp [World.frozen?, hx']
    have HVA := Lib.hid hva; have HX := Lib.hid hx'; have HK := Lib.hid hk; have HGJ := Lib.hid hgj; have HGX := Lib.hid hgx; have HJW := Lib.hid hjw; have HZR := Lib.hid hzr
    have HSS := Lib.hid hsv.far
    clear hva hx' hk hgj hgx hsv hjw hbdj hbxr hbxr2 hfx hzr hz1 hap hbl hf hz2
    go_wp2_with fail
    refine HVA.out.mono ?_
    clear HVA b0
    rintro e wv ⟨rfl, g2, cap2, hsv, hk2, hg2⟩
    have hss := HSS.out; have hzr := HZR.out; have hz2 := HZ2.out; have hz1 := HZ1.out; have hgx := HGX.out; have hf := HF.out; have hzv := hk2.size
    have hx2 : wv.heap[w.heap.size]? = some (.cells #[.int .i64 (c0K H j), .int .i64 (c1K H j)] 86) := hk2.heap HX.out (by omega) (by omega)
    have hfx : ∀ i, wv.frozen? ⟨w.heap.size, i, none⟩ = false := fun i => by simp [World.frozen?, hx2]
    have e0 : wv.cell? ⟨w.heap.size, j, none⟩ = some (.int .i64 (if j = 0 then c0K H j else c1K H j)) := by
      match j, (show j < 2 by omega) with
      | 0, _ => exact cell_box hx2 rfl rfl
      | 1, _ => exact cell_box hx2 rfl rfl
    have HX2' := Lib.hid hx2
    have HSV := Lib.hid hsv; have HK2' := Lib.hid hk2; have HG2 := Lib.hid hg2; have HZV := Lib.hid hzv
    clear hsv hk2 hg2 hx2 hss hzr hz2 hz1 hgx hf hzv
    go_wp2_with fail
    go_roundg (m - (j + 1))
    case measure => omega
    case rel =>
      have hss := HSS.out; have hzr := HZR.out; have hz2 := HZ2.out; have hz1 := HZ1.out; have hgx := HGX.out; have hf := HF.out; have hzv := HZV.out; have hgj := HGJ.out; have hg2 := HG2.out
      have hsf := HSV.out.far
      refine ⟨j + 1, g2, cap2, hlt, by rw [show ((j + 1 : Nat) : Int) = (j : Int) + 1 from by omega], ?_, ?_, ?_, ?_, ?_, ?_, rfl⟩
      · have h9 := HSV.out.same (w' := wv.setCell ⟨w.heap.size, j, none⟩ (.int .i64 ((H.length : Int) + (j : Int)))) (Below.heap_setCell _ _ _ s (by dsimp only; omega)) (Below.heap_setCell _ _ _ g2 (by dsimp only; omega))
        rw [vns, vnd]
        rw [show C + ((j + 1 : Nat) : Int) = C + (j : Int) + 1 from by omega]
        exact h9
      · refine (HK.out.trans (HK2'.out.mono (by omega) (fun k hk h => ?_))).setCell (.inl (Nat.le_refl _)) _
        rcases h with h | h
        · exact .inl h
        · exact .inr (by omega)
      · omega
      · omega
      · have h9 := box_set (i := j) (v := .int .i64 ((H.length : Int) + (j : Int))) HX2'.out
        match j, (show j < 2 by omega), h9 with
        | 0, _, h9 => exact h9
        | 1, _, h9 => exact h9
      · rw [size_setCell]; omega
  · obtain rfl : j = m := by omega
    have h4 : ar kk = 1 ∨ ar kk = 2 := by have := H0.out; have := HM.out; omega
    have hsf := hsv.far
    have hdn : (vns H lev j)[n]? = some d := vns_get HD.out
    have hrn : (vns H lev j)[d.up]? = some r := vns_get HR.out
    have hkd := fun x (hx : SV Bv s gj cj L (C + (j : Int)) K x (vns H lev j)) => kind12_any hx hdn hrn
    rw [HKK.out] at hkd
    have hmk := fun x (hx : SV Bv s gj cj L (C + (j : Int)) K x (vns H lev j)) => make12_any hx hbdj kk (c0K H j) (c1K H j)
    have hall : (kidL kk (c0K H j) (c1K H j)).all (okN (vns H lev j).length) = true := by
      have hj := HM.out
      rw [vns_len]
      unfold kidL c0K c1K okN
      rcases h4 with h4 | h4
      · rw [h4] at hj ⊢; rw [← hj]; simp; omega
      · rw [h4] at hj ⊢; rw [← hj]; simp; omega
    rw [HM.out, hall] at hmk
    unfold MkP at hmk
    simp only [show ¬ (j = 0 ∨ true = false) from by have := H0.out; simp; omega, show ¬ (C + (j : Int) = L) from by omega, if_false] at hmk
    have hcell := fun x (hx : RK s gj wr.drew x) => And.intro ((show Kp wr.heap.size (fun k => k = s ∨ k = gj) wr.drew x from hx).cell (k := b) (o := 0) (u := .pointer (some ⟨s, 0, none⟩)) b0 (by omega) (by omega)) (And.intro ((show Kp wr.heap.size (fun k => k = s ∨ k = gj) wr.drew x from hx).cell (k := w.heap.size) (o := 0) (u := .int .i64 (c0K H j)) (cell_box hx' rfl rfl) (by omega) (by omega)) ((show Kp wr.heap.size (fun k => k = s ∨ k = gj) wr.drew x from hx).cell (k := w.heap.size) (o := 1) (u := .int .i64 (c1K H j)) (cell_box hx' rfl rfl) (by omega) (by omega)))
    have HKD := Lib.hid hkd; have HMK := Lib.hid hmk; have HCELL := Lib.hid hcell; have SR := Lib.hid hsv.drew; have HKR := Lib.hid hk.drew; have HGJ := Lib.hid hgj; have HZR := Lib.hid hzr; have H4 := Lib.hid h4
    have HGX := Lib.hid hgx
    clear hkd hmk hcell hsv hk hgj hzr h4 hx' hsf hdn hrn hall hbdj hbxr hbxr2 b0 hz1 hap hbl hf hz2 hcc hgx
    go_upto_region 10 with fail
    refine wp_region_rel (R := RK s gj) RK.refl RK.trans [(0, false), (0, false), (0, false), (0, false), (0, false), (0, false), (0, false), (0, false), (0, false), (1, false), (1, false), (1, false), (1, false), (0, true), (0, true), (0, false), (0, false), (0, false), (0, false)] (by kernel_rfl) (by kernel_rfl) (by kernel_rfl) (fun _ _ _ d _ h => by cases d <;> exact h) ?_
    repeat
      first
      | (first | with_reducible refine rp0 (fun K hK => ?_) | with_reducible refine rp1 (fun K hK => ?_) | with_reducible refine rp2 (fun K hK => ?_) | with_reducible refine rp3 (fun K hK => ?_) | with_reducible refine rp4 (fun K hK => ?_)
         go_simp
         first
         | (with_reducible refine hK _ _ ?_; clear hK K)
         | (with_reducible apply Exists.intro
            refine ⟨fun x hx => ?_, hK _ _ ?_⟩
            first
              | (with_reducible exact rfl)
              | (have y0 := (HCELL.out _ hx).1; have y1 := (HCELL.out _ hx).2.1; have y2 := (HCELL.out _ hx).2.2; go_simp; done)
              | (have y0 := (HCELL.out _ hx).1; have y1 := (HCELL.out _ hx).2.1; have y2 := (HCELL.out _ hx).2.2; go_simp; with_reducible exact rfl)
            clear hK K))
      | (first | with_reducible refine rk0 ?_ (fun K hK => ?_) | with_reducible refine rk1 ?_ (fun K hK => ?_) | with_reducible refine rk2 ?_ (fun K hK => ?_) | with_reducible refine rk3 ?_ (fun K hK => ?_) | with_reducible refine rk4 ?_ (fun K hK => ?_)
         rfl
         go_simp
         with_reducible refine hK _ _ ?_
         clear hK K)
    first | with_reducible refine rc0 (fun K hK => ?_) | with_reducible refine rc1 (fun K hK => ?_) | with_reducible refine rc2 (fun K hK => ?_) | with_reducible refine rc3 (fun K hK => ?_) | with_reducible refine rc4 (fun K hK => ?_)
    go_simp
    refine (HKD.out _ SR.out).mono ?_
    rintro e w4 ⟨rfl, hsv, hk⟩
    have hk' : RK s gj wr.drew w4 := hk.mono (Nat.le_refl _) (fun _ _ h => .inr h)
    refine ⟨hk', hK _ _ ?_⟩
    clear hK K
    have S4 := Lib.hid hsv; have K4 := Lib.hid hk'
    clear hsv hk hk'
    repeat
      first
      | (first | with_reducible refine rp0 (fun K hK => ?_) | with_reducible refine rp1 (fun K hK => ?_) | with_reducible refine rp2 (fun K hK => ?_) | with_reducible refine rp3 (fun K hK => ?_) | with_reducible refine rp4 (fun K hK => ?_)
         go_simp
         first
         | (with_reducible refine hK _ _ ?_; clear hK K)
         | (with_reducible apply Exists.intro
            refine ⟨fun x hx => ?_, hK _ _ ?_⟩
            first
              | (with_reducible exact rfl)
              | (have y0 := (HCELL.out _ (K4.out.trans hx)).1; have y1 := (HCELL.out _ (K4.out.trans hx)).2.1; have y2 := (HCELL.out _ (K4.out.trans hx)).2.2; go_simp; done)
              | (have y0 := (HCELL.out _ (K4.out.trans hx)).1; have y1 := (HCELL.out _ (K4.out.trans hx)).2.1; have y2 := (HCELL.out _ (K4.out.trans hx)).2.2; go_simp; with_reducible exact rfl)
            clear hK K))
      | (first | with_reducible refine rk0 ?_ (fun K hK => ?_) | with_reducible refine rk1 ?_ (fun K hK => ?_) | with_reducible refine rk2 ?_ (fun K hK => ?_) | with_reducible refine rk3 ?_ (fun K hK => ?_) | with_reducible refine rk4 ?_ (fun K hK => ?_)
         rfl
         go_simp
         with_reducible refine hK _ _ ?_
         clear hK K)
    first | with_reducible refine rc0 (fun K hK => ?_) | with_reducible refine rc1 (fun K hK => ?_) | with_reducible refine rc2 (fun K hK => ?_) | with_reducible refine rc3 (fun K hK => ?_) | with_reducible refine rc4 (fun K hK => ?_)
    go_simp
    refine (HMK.out _ S4.out).mono ?_
    rintro e w5 ⟨rfl, g5, cap5, hsv, hk, hg5⟩
    have hk' : RK s gj w4 w5 := hk
    refine ⟨hk', hK _ _ ?_⟩
    clear hK K
    have S5 := Lib.hid hsv; have K5 := Lib.hid (K4.out.trans hk'); have HG5 := Lib.hid hg5; have HZ4 := Lib.hid (show wr.heap.size ≤ w4.heap.size from K4.out.size)
    clear hsv hk hk' hg5
    repeat
      first
      | (first | with_reducible refine rp0 (fun K hK => ?_) | with_reducible refine rp1 (fun K hK => ?_) | with_reducible refine rp2 (fun K hK => ?_) | with_reducible refine rp3 (fun K hK => ?_) | with_reducible refine rp4 (fun K hK => ?_)
         go_simp
         first
         | (with_reducible refine hK _ _ ?_; clear hK K)
         | (with_reducible apply Exists.intro
            refine ⟨fun x hx => ?_, hK _ _ ?_⟩
            first
              | (with_reducible exact rfl)
            clear hK K))
      | (first | with_reducible refine rk0 ?_ (fun K hK => ?_) | with_reducible refine rk1 ?_ (fun K hK => ?_) | with_reducible refine rk2 ?_ (fun K hK => ?_) | with_reducible refine rk3 ?_ (fun K hK => ?_) | with_reducible refine rk4 ?_ (fun K hK => ?_)
         rfl
         go_simp
         with_reducible refine hK _ _ ?_
         clear hK K)
    with_reducible refine rel_nil ?_
    go_wp2_with fail
    refine bodyPost_ret (v := .tuple #[.int .i64 (((vns H lev j).length : Nat) : Int), .int .i64 0]) (by simp [results, Try.f122, go_sem]) rfl ?_
    refine ⟨g5, cap5, by rw [vns_len, HM.out], ?_, ?_, ?_⟩
    · have h9 := S5.out
      unfold likeH
      rw [HM.out]
      have e1 : (if j = 2 then ((H.length + 1 : Nat) : Int) else 0) = c1K H j := by
        have := HM2.out; have := H0.out
        unfold c1K
        by_cases e : j = 2
        · rw [if_pos e, if_pos (by omega)]
        · rw [if_neg e, if_neg (by omega)]
      have e0 : (H.length : Int) = c0K H j := by unfold c0K; rw [if_pos (by have := H0.out; omega)]
      rw [e1, e0, ← vns_len H lev j]
      exact h9
    · refine HKR.out.trans (K5.out.mono (by have := HZR.out; have := HZ2.out; have := HZ1.out; show w.heap.size ≤ wr.heap.size; omega) (fun k hk h => ?_))
      rcases h with h | h
      · exact .inl h
      · have := HGJ.out; exact .inr (by omega)
    · have := HGJ.out; have := HG5.out; have := HZ4.out; have := HZR.out; have := HZ2.out; have := HZ1.out; omega
end
end Go.Proofs.Yteolbbgnkbcfmaa
