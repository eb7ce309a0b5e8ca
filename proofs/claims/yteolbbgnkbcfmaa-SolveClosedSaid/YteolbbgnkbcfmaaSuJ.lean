/- store.Put: the walk. -/
import Derived.Test.YteolbbgnkbcfmaaSuK
import Derived.Test.YteolbbgnkbcfmaaSeqA
namespace Go.Proofs.Yteolbbgnkbcfmaa
open Go Go.RowKit
open Tp (T)
open Sg (Of Rt Den Dens Alk Mkd trav travs rootOf kidsOf)
attribute [local go_sem] Oper.semAt_some
theorem back_any (va : Option Addr) (n vc : Nat) (w : World) : Calls Try.prog 105 #[.slice va n vc] w fun e w' => e = .returned (.func (.func 133) #[] #[.pointer (some ⟨w.heap.size, 0, none⟩)]) ∧ w' = w.alloc (.cells #[.slice va n vc] 24) := by
  go_enter Try.func105, Try.ntmps105
  go_wp2_with fail
  go_ret
  exact ⟨by simp, rfl⟩
/-- What Put hands back. -/
def PtP (B s g cap : Nat) (L C K : Int) (H : List SNd) (t : T) (w : World) (e : Ending) (w' : World) : Prop :=
  Kp w.heap.size (fun k => k = s ∨ k = g) w w' ∧
  if Tp.right t = true ∧ Tp.without 6 t = true then
    if (inner t : Int) ≤ L - C then ∃ g' cap', e = .returned (.tuple #[.int .i64 ((mkP H t).2 : Int), .int .i64 0]) ∧ SV B s g' cap' L (C + inner t) K w' (mkP H t).1 ∧ (g' = g ∨ w.heap.size ≤ g')
    else e = .returned (.tuple #[.int .i64 0, .int .i64 7]) ∧ SV B s g cap L C K w' H
  else e = .returned (.tuple #[.int .i64 0, .int .i64 1]) ∧ SV B s g cap L C K w' H
section
variable {B s g cap : Nat} {L C K : Int} {w : World} {H : List SNd}
set_option maxRecDepth 100000 in
set_option maxHeartbeats 8000000 in
theorem put12_anyW (h : SV B s g cap L C K w H) (hBd : Bds L C H) (t : T) (a : Option Addr) (c n0 : Nat) (hsz : Tp.size t ≤ 10000) (hn0 : n0 ≤ w.heap.size) (hB : B ≤ w.heap.size) (hty : TyAt (LT n0) w t a c) :
    Calls Try.prog 49 #[.pointer (some ⟨s, 0, none⟩), tv t a c] w (PtP B s g cap L C K H t w) := by
  obtain ⟨tk, tn, tm, hv⟩ := TV.mk t
  obtain ⟨W2, hW2⟩ : ∃ W, (w.alloc (.cells #[.pointer (some ⟨s, 0, none⟩)] 30)).alloc (.cells #[.int .i64 tk, .int .i64 tn, .slice a tm c] 26) = W := ⟨_, rfl⟩
  have hb2 : Below w.heap.size w W2 := by rw [← hW2]; exact ((Below.refl _ _).alloc (Nat.le_refl _) _).alloc (by simp) _
  have hx0 : W2.heap[w.heap.size]? = some (.cells #[.pointer (some ⟨s, 0, none⟩)] 30) := by rw [← hW2]; exact box1 _ _ _ _ _
  have hx1 : W2.heap[w.heap.size + 1]? = some (.cells #[.int .i64 tk, .int .i64 tn, .slice a tm c] 26) := by rw [← hW2]; exact box2 _ _ _ _ _
  have hs2 : W2.heap.size = w.heap.size + 2 := by rw [← hW2]; simp
  have hsv2 := h.below hb2
  have hty2 := hty.below (hb2.mono hn0) (fun _ h => h) (fun _ h => h) (G' := LT n0)
  have hck := check_any t a c W2 hsz (hty2.below (Below.refl n0 _) (fun _ h => h) (fun k hk => (show k < W2.heap.size by have : k < n0 := hk; omega)))
  have hcl := fun W (hb : Below W2.heap.size W2 W) => closed_any t a c W hsz (hty2.below (hb.mono (by omega : n0 ≤ W2.heap.size)) (fun _ h => h) (fun k hk => (show k < W.heap.size by have : k < n0 := hk; have := hb.size; omega)))
  rw [tv_of hv] at hck ⊢
  simp only [tv_of hv] at hcl
  obtain ⟨r1, hr1⟩ : ∃ q, Tp.right t = q := ⟨_, rfl⟩
  obtain ⟨r2, hr2⟩ : ∃ q, Tp.without 6 t = q := ⟨_, rfl⟩
  rw [hr1] at hck
  simp only [hr2] at hcl
  have c0 : W2.cell? ⟨w.heap.size + 1, 0, none⟩ = some (.int .i64 tk) := cell_box hx1 rfl rfl
  have c1 : W2.cell? ⟨w.heap.size + 1, 1, none⟩ = some (.int .i64 tn) := cell_box hx1 rfl rfl
  have c2 : W2.cell? ⟨w.heap.size + 1, 2, none⟩ = some (.slice a tm c) := cell_box hx1 rfl rfl
  have HCK := Lib.hid hck; have HCL := Lib.hid hcl; have HR1 := Lib.hid hr1; have HR2 := Lib.hid hr2; have HW2 := Lib.hid hW2; have HB2 := Lib.hid hb2; have HX0 := Lib.hid hx0; have HX1 := Lib.hid hx1; have HS2 := Lib.hid hs2; have HSV2 := Lib.hid hsv2; have HTY2 := Lib.hid hty2; have HBD := Lib.hid hBd; have HSZ := Lib.hid hsz; have HN0 := Lib.hid hn0; have HBW := Lib.hid hB; have HV := Lib.hid hv; have HF := Lib.hid h.far; have hm2 : Try.prog.follows .mixedOrders = true := by kernel_rfl
  clear hck hcl hr1 hr2 hW2 hb2 hx0 hx1 hs2 hsv2 hty2 hBd hsz hn0 hB hv h hty
  refine callsIn_wide (n := 9) |>.1 ?_
  refine callsIn_of_wp_marks Try.func49 rfl trivial ?_ rfl
  simp only [Try.ntmps49, List.size_toArray, List.length_cons, List.length_nil, Nat.reduceAdd, Nat.reduceSub, Array.replicate_succ, Array.replicate_zero, List.push_toArray, List.append_toArray, List.nil_append, List.cons_append]
  gi_upto_region 1 with fail
  rw [HW2.out]
  gi_wp2
  refine ⟨trivial, ?_⟩
  refine (callsIn_wide.2 HCK.out).mono ?_
  clear HCK
  rintro e w3 ⟨rfl, hb⟩
  have HB3 := Lib.hid hb
  clear c0 c1 c2 hb
  have hx3 := (HB3.out.block _ (Array.getElem?_eq_some_iff.1 HX1.out).1).trans HX1.out
  have c0 : w3.cell? ⟨w.heap.size + 1, 0, none⟩ = some (.int .i64 tk) := cell_box hx3 rfl rfl
  have c1 : w3.cell? ⟨w.heap.size + 1, 1, none⟩ = some (.int .i64 tn) := cell_box hx3 rfl rfl
  have c2 : w3.cell? ⟨w.heap.size + 1, 2, none⟩ = some (.slice a tm c) := cell_box hx3 rfl rfl
  have HX3 := Lib.hid hx3
  clear hx3
  cases r1 with
  | false =>
    rw [show errOf false = (1 : Int) from rfl]
    gi_wp2
    refine ⟨trivial, ?_⟩
    gi_wp2
    refine ⟨.tuple #[.int .i64 0, .int .i64 1], by simp [results, Try.f49, go_sem], (Kp.of_below (HB2.out.tr HB3.out (Nat.le_refl _))), ?_⟩
    rw [if_neg (by rw [HR1.out]; intro h; cases h.1)]
    exact ⟨rfl, HSV2.out.below HB3.out⟩
  | true =>
  rw [show errOf true = (0 : Int) from rfl]
  gi_wp2
  refine ⟨trivial, ?_⟩
  refine (callsIn_wide.2 (HCL.out w3 HB3.out)).mono ?_
  rintro e w4 ⟨rfl, hb⟩
  have hb4 := HB3.out.tr hb (Nat.le_refl _)
  clear c0 c1 c2 hb HB3 HCL
  cases r2 with
  | false =>
    gi_wp2
    refine ⟨.tuple #[.int .i64 0, .int .i64 1], by simp [results, Try.f49, go_sem], (Kp.of_below (HB2.out.tr hb4 (Nat.le_refl _))), ?_⟩
    rw [if_neg (by rw [HR2.out]; intro h; cases h.2)]
    exact ⟨rfl, HSV2.out.below hb4⟩
  | true =>
  obtain ⟨R, hR⟩ : ∃ R : Nat, L - C = (R : Int) := ⟨(L - C).toNat, by have := HBD.out.cl; omega⟩
  have hRb : R ≤ 1000000 := by have := HBD.out.l; have := HBD.out.c0; omega
  have hx5 : w4.drew.heap[w.heap.size + 1]? = some (.cells #[.int .i64 tk, .int .i64 tn, .slice a tm c] 26) := (hb4.block _ (Array.getElem?_eq_some_iff.1 HX1.out).1).trans HX1.out
  have hx6 : w4.drew.heap[w.heap.size]? = some (.cells #[.pointer (some ⟨s, 0, none⟩)] 30) := (hb4.block _ (Array.getElem?_eq_some_iff.1 HX0.out).1).trans HX0.out
  have hrm := fun W (hb : Below w4.heap.size w4.drew W) => room12_any (((HSV2.out.below hb4).drew).below hb)
  rw [show wrap64 (L - C) = (R : Int) from by rw [hR]; unfold wrap64; omega] at hrm
  have hbk := fun W (hb : Below w4.heap.size w4.drew W) => backwards_any n0 t a c R W (by have := HSZ.out; omega) hRb (by have := HN0.out; have := HBW.out; have := hb4.size; have := hb.size; have := HS2.out; have h9 : w4.drew.heap.size = w4.heap.size := rfl; omega) (HTY2.out.below ((hb4.drew.mono (by have := HN0.out; have := HBW.out; have := HS2.out; omega)).trans (hb.mono (by have := HN0.out; have := HBW.out; have := HS2.out; have := hb4.size; omega))) (fun _ h => h) (fun _ h => h))
  simp only [tv_of HV.out] at hbk
  have hcell := fun W (hb : Below w4.heap.size w4.drew W) => (⟨cell_box ((hb.block _ (Array.getElem?_eq_some_iff.1 hx5).1).trans hx5) rfl rfl, cell_box ((hb.block _ (Array.getElem?_eq_some_iff.1 hx5).1).trans hx5) rfl rfl, cell_box ((hb.block _ (Array.getElem?_eq_some_iff.1 hx5).1).trans hx5) rfl rfl, cell_box ((hb.block _ (Array.getElem?_eq_some_iff.1 hx6).1).trans hx6) rfl rfl⟩ : W.cell? ⟨w.heap.size + 1, 0, none⟩ = some (.int .i64 tk) ∧ W.cell? ⟨w.heap.size + 1, 1, none⟩ = some (.int .i64 tn) ∧ W.cell? ⟨w.heap.size + 1, 2, none⟩ = some (.slice a tm c) ∧ W.cell? ⟨w.heap.size, 0, none⟩ = some (.pointer (some ⟨s, 0, none⟩)))
  have HBD4 := Lib.hid (Below.refl w4.heap.size w4.drew); have HRM := Lib.hid hrm; have HBK := Lib.hid hbk; have HCELL := Lib.hid hcell; have HR := Lib.hid hR; have HB4 := Lib.hid hb4; have HX5 := Lib.hid hx5; have HX6 := Lib.hid hx6
  clear hR hRb hx5 hx6 hrm hbk hcell hb4
  gi_upto_region 3 with fail
  obtain ⟨c0, c1, c2, d0⟩ := HCELL.out _ HBD4.out
  have HLE := Lib.hid (fun x (h : Below w4.heap.size w4.drew x) => h.size)
  have hw14 : w.heap.size + 2 ≤ w4.heap.size := by have := HB4.out.size; rw [HS2.out] at this; exact this
  have HW14 := Lib.hid hw14
  clear hw14
  refine wpIn_only ?_
  refine (wpIn_wide (n := 9)).2 ?_
  by_cases hin : inner t ≤ R
  · have HIN := Lib.hid hin
    clear hin
    refine wp_region_seq [(0, false), (0, false), (0, true), (0, true), (0, false), (0, false), (0, false), (0, false), (0, false)] (by kernel_rfl) (by kernel_rfl) (by kernel_rfl) (fun _ _ _ d _ h => by cases d <;> exact h) ?_
    repeat
      first
      | (first | with_reducible refine sp0 (fun K hK => ?_) | with_reducible refine sp1 (fun K hK => ?_) | with_reducible refine sp2 (fun K hK => ?_) | with_reducible refine sp3 (fun K hK => ?_) | with_reducible refine sp4 (fun K hK => ?_)
         go_simp
         first
         | (with_reducible refine hK _ _ ?_; clear hK K)
         | (with_reducible apply Exists.intro
            refine ⟨fun x hx => ?_, hK _ _ ?_⟩
            first
              | (with_reducible exact rfl)
              | (have y0 := keepc hx c0; have y1 := keepc hx c1; have y2 := keepc hx c2; have y3 := keepc hx d0; go_simp; done)
              | (have y0 := keepc hx c0; have y1 := keepc hx c1; have y2 := keepc hx c2; have y3 := keepc hx d0; go_simp; with_reducible exact rfl)
            clear hK K))
      | (first | with_reducible refine sk0 ?_ (fun K hK => ?_) | with_reducible refine sk1 ?_ (fun K hK => ?_) | with_reducible refine sk2 ?_ (fun K hK => ?_) | with_reducible refine sk3 ?_ (fun K hK => ?_) | with_reducible refine sk4 ?_ (fun K hK => ?_)
         rfl
         go_simp
         with_reducible refine hK _ _ ?_
         clear hK K)
    first | with_reducible refine sc0 (fun K hK => ?_) | with_reducible refine sc1 (fun K hK => ?_) | with_reducible refine sc2 (fun K hK => ?_) | with_reducible refine sc3 (fun K hK => ?_) | with_reducible refine sc4 (fun K hK => ?_)
    go_simp
    refine (HRM.out _ HBD4.out).mono ?_
    clear c0 c1 c2 d0
    rintro e v1 ⟨rfl, hb9⟩
    refine ⟨hb9, hK _ _ ?_⟩
    clear hK K
    have HC1 := Lib.hid (HBD4.out.trans (hb9.mono (HLE.out _ HBD4.out)))
    clear hb9
    obtain ⟨c0, c1, c2, d0⟩ := HCELL.out v1 HC1.out
    repeat
      first
      | (first | with_reducible refine sp0 (fun K hK => ?_) | with_reducible refine sp1 (fun K hK => ?_) | with_reducible refine sp2 (fun K hK => ?_) | with_reducible refine sp3 (fun K hK => ?_) | with_reducible refine sp4 (fun K hK => ?_)
         go_simp
         first
         | (with_reducible refine hK _ _ ?_; clear hK K)
         | (with_reducible apply Exists.intro
            refine ⟨fun x hx => ?_, hK _ _ ?_⟩
            first
              | (with_reducible exact rfl)
              | (have y0 := keepc hx c0; have y1 := keepc hx c1; have y2 := keepc hx c2; have y3 := keepc hx d0; go_simp; done)
              | (have y0 := keepc hx c0; have y1 := keepc hx c1; have y2 := keepc hx c2; have y3 := keepc hx d0; go_simp; with_reducible exact rfl)
            clear hK K))
      | (first | with_reducible refine sk0 ?_ (fun K hK => ?_) | with_reducible refine sk1 ?_ (fun K hK => ?_) | with_reducible refine sk2 ?_ (fun K hK => ?_) | with_reducible refine sk3 ?_ (fun K hK => ?_) | with_reducible refine sk4 ?_ (fun K hK => ?_)
         rfl
         go_simp
         with_reducible refine hK _ _ ?_
         clear hK K)
    first | with_reducible refine sc0 (fun K hK => ?_) | with_reducible refine sc1 (fun K hK => ?_) | with_reducible refine sc2 (fun K hK => ?_) | with_reducible refine sc3 (fun K hK => ?_) | with_reducible refine sc4 (fun K hK => ?_)
    go_simp
    refine (HBK.out _ HC1.out).mono ?_
    intro e v2 hp
    obtain ⟨hb, hp⟩ := hp
    rw [if_pos HIN.out] at hp
    obtain ⟨va, vc, D, rfl, hD1, hD2, hD3⟩ := hp
    have HB5 := Lib.hid (HC1.out.trans (hb.mono (HLE.out _ HC1.out))); have HD1 := Lib.hid hD1; have HD2 := Lib.hid hD2; have HD3 := Lib.hid hD3
    have HZV1 := Lib.hid (HLE.out _ HC1.out)
    refine ⟨hb, hK _ _ ?_⟩
    clear hK K
    clear hD1 hD2 hD3 hb c0 c1 c2 d0
    repeat
      first
      | (first | with_reducible refine sp0 (fun K hK => ?_) | with_reducible refine sp1 (fun K hK => ?_) | with_reducible refine sp2 (fun K hK => ?_) | with_reducible refine sp3 (fun K hK => ?_) | with_reducible refine sp4 (fun K hK => ?_)
         go_simp
         first
         | (with_reducible refine hK _ _ ?_; clear hK K)
         | (with_reducible apply Exists.intro
            refine ⟨fun x hx => ?_, hK _ _ ?_⟩
            first
              | (with_reducible exact rfl)
            clear hK K))
      | (first | with_reducible refine sk0 ?_ (fun K hK => ?_) | with_reducible refine sk1 ?_ (fun K hK => ?_) | with_reducible refine sk2 ?_ (fun K hK => ?_) | with_reducible refine sk3 ?_ (fun K hK => ?_) | with_reducible refine sk4 ?_ (fun K hK => ?_)
         rfl
         go_simp
         with_reducible refine hK _ _ ?_
         clear hK K)
    with_reducible refine seq_nil ?_
    gi_wp2
    obtain ⟨V3, hV3⟩ : ∃ W, v2.alloc (.cells #[.slice none 0 0] 27) = W := ⟨_, rfl⟩
    refine ⟨trivial, ?_⟩
    rw [hV3]
    refine (callsIn_wide.2 (back_any va D.length vc V3)).mono ?_
    rintro e w' ⟨rfl, rfl⟩
    obtain ⟨V4, hV4⟩ : ∃ W, V3.alloc (.cells #[.slice va D.length vc] 24) = W := ⟨_, rfl⟩
    have hz3 : V3.heap.size = v2.heap.size + 1 := by rw [← hV3, World.size_alloc]
    have hz4 : V4.heap.size = v2.heap.size + 2 := by rw [← hV4, World.size_alloc, hz3]
    have hb24 : Below v2.heap.size v2 V4 := by rw [← hV4, ← hV3]; exact ((Below.refl _ _).alloc (Nat.le_refl _) _).alloc (by simp) _
    have hx8 : V4.heap[v2.heap.size]? = some (.cells #[.slice none 0 0] 27) := by rw [← hV4]; exact (Below.heap_alloc _ _ _ (by rw [hz3]; omega)).trans (by rw [← hV3]; exact World.alloc_heap_new _ _)
    have hx9 : V4.heap[v2.heap.size + 1]? = some (.cells #[.slice va D.length vc] 24) := by rw [← hV4, ← hz3]; exact World.alloc_heap_new _ _
    rw [hz3, hV4]
    have HZ4 := Lib.hid hz4; have HB24 := Lib.hid hb24; have HX8 := Lib.hid hx8; have HX9 := Lib.hid hx9
    clear hV3 hV4 hz3 hz4 hb24 hx8 hx9
    gi_wp2
    have hdl : D.length = Tp.size t := by have h9 := congrArg List.length HD1.out; rw [List.length_map, bw_len] at h9; exact h9
    have hseq := backT_seq (v2.heap.size + 1) (D.map tlOf) va vc (by rw [List.length_map, hdl]; have := HSZ.out; omega)
    rw [List.length_map] at hseq
    have hb05 : Below w.heap.size w v2 := ((HB2.out.tr HB4.out (Nat.le_refl _)).drew).trans (HB5.out.mono (by have := HW14.out; omega))
    have hsv5 : SV B s g cap L C K v2 H := ((HSV2.out.below HB4.out).drew).below HB5.out
    have hv25 : w4.heap.size ≤ v2.heap.size := HB5.out.size
    have hpt : v2.heap[w.heap.size]? = some (.cells #[.pointer (some ⟨s, 0, none⟩)] 30) := (HB5.out.block _ (by have := HW14.out; omega)).trans HX6.out
    have hlow : ∀ z, (Value.slice va D.length vc).ownBlock = some z → z < v2.heap.size := fun z hz => (HD3.out.lt z hz).2
    have HDL := Lib.hid hdl; have HB05 := Lib.hid hb05; have HSV5 := Lib.hid hsv5; have HV25 := Lib.hid hv25; have HPT := Lib.hid hpt; have HLOW := Lib.hid hlow
    clear hdl hb05 hsv5 hv25 hpt hlow
    refine wpIn_range_bw (a₁ := fun i W => { tmps := #[.pointer (some ⟨s, 0, none⟩), .agg #[.int .i64 tk, .int .i64 tn, .slice a tm c], .pointer (some ⟨w.heap.size, 0, none⟩), .pointer (some ⟨w.heap.size + 1, 0, none⟩), .int .i64 0, .int .i64 0, .slice va D.length vc, .bool true, .pointer (some ⟨v2.heap.size, 0, none⟩), undef, .pointer (some ⟨W.heap.size, 0, none⟩), undef, undef, undef, .agg #[.int .i64 tk, .int .i64 tn, .slice a tm c], .int .i64 0, .bool false, .bool false, .agg #[.int .i64 tk, .int .i64 tn, .slice a tm c], .bool true, .bool false, .bool false, .tuple #[.slice va D.length vc, .bool true], .agg #[.int .i64 tk, .int .i64 tn, .slice a tm c], .pointer (some ⟨s, 0, none⟩), .int .i64 (R : Int), .tuple #[.slice va D.length vc, .bool true], .slice va D.length vc, .bool true, .bool true, .bool false, .slice va D.length vc, .func (.func 133) #[] #[.pointer (some ⟨v2.heap.size + 1, 0, none⟩)], .int .i64 (i : Int), ((D.map tlOf).getD i ⟨0, 0, none, 0, 0⟩).val, undef, undef, undef, undef, undef, undef, undef, undef, undef, undef, undef, undef, undef, undef, undef, undef, undef, undef, undef, undef, undef, undef, undef, undef, undef, undef, undef, undef, undef, undef, undef, undef, undef, undef], defers := [] }) (As := fun i W => W.alloc (.cells ((D.map tlOf).getD i ⟨0, 0, none, 0, 0⟩).cells.toArray 26))
      rfl (enters_of Try.func133 (by kernel_rfl) rfl) hseq (fun _ => rfl)
      (fun k W => ∃ S g' cap' oa oc, PtJ B s g L C K H t w v2.heap.size (D.map tlOf) va vc D k S g' cap' oa oc W) (fun _ _ _ => False) (fun i W => Turns.alloc _ _ _) ?src ?inv (fun _ _ _ _ h _ => h) ?start ?assign ?body ?done ?stop
    case src =>
      rintro k W ⟨S, g', cap', oa, oc, J⟩
      exact tl_at J.row (cell_box J.src rfl rfl)
    case inv =>
      rintro k A E ⟨S, g', cap', oa, oc, J⟩ hT
      have hz := HZ4.out
      have hs := J.sv.far
      have hg := J.gg
      have hf := HF.out; have hw := HW14.out; have hv := HV25.out; have hb1 := (Array.getElem?_eq_some_iff.1 J.box).1; have hb2 := (Array.getElem?_eq_some_iff.1 J.src).1; have hb3 := (Array.getElem?_eq_some_iff.1 J.ptr).1
      have far : ∀ z, z < A.heap.size → z ≠ v2.heap.size + 2 → z ≠ v2.heap.size + 3 → E.heap[z]? = A.heap[z]? := fun z h1 h2 h3 => hT.block z h1 (fun h => by omega)
      refine ⟨S, g', cap', oa, oc, ⟨J.at_, J.sv.same (far s (by omega) (by omega) (by omega)) (far g' (by omega) (by omega) (by omega)), J.gg, (far _ (by omega) (by omega) (by omega)).trans J.box, own_same J.own (fun z hz => far z (J.own.lt z hz).2 (by have := (J.own.lt z hz).1; omega) (by have := (J.own.lt z hz).1; omega)), (far _ (by omega) (by omega) (by omega)).trans J.ptr, (far _ (by omega) (by omega) (by omega)).trans J.src, own_same J.row (fun z hz => far z (J.row.lt z hz).2 (by have := J.low z hz; omega) (by have := J.low z hz; omega)), J.low, ⟨hT.os.trans J.kp.os, hT.tape.trans J.kp.tape, hT.output.trans J.kp.output, Nat.le_trans J.kp.size hT.size, fun i hi hm => (far i (by have := J.kp.size; omega) (by omega) (by omega)).trans (J.kp.block i hi hm)⟩, J.len⟩⟩
    case start =>
      refine ⟨(H, []), g, cap, none, 0, ⟨by rw [List.take_zero]; rfl, ?_, .inl rfl, HX8.out, World.ownsRow_nil _ _ _ _, (HB24.out.block _ (by have := HW14.out; have := HV25.out; omega)).trans HPT.out, HX9.out, own_same (own_base' HD3.out (by have := HW14.out; have := HZV1.out; have h9 : w4.drew.heap.size = w4.heap.size := rfl; omega)) (fun z hz => HB24.out.block z (HLOW.out z hz)), HLOW.out, Kp.of_below (HB05.out.trans (HB24.out.mono (by have := HW14.out; have := HV25.out; omega))), ⟨by simp, by simp, by simp⟩⟩⟩
      rw [show C + (((H, ([] : List Nat)).1.length : Int) - (H.length : Int)) = C by show C + ((H.length : Int) - (H.length : Int)) = C; omega]
      exact HSV5.out.below HB24.out
    case assign =>
      intro l i W K hK
      generalize (D.map tlOf).getD i ⟨0, 0, none, 0, 0⟩ = x at hK ⊢
      obtain ⟨xk, xn, xa, xm, xc⟩ := x
      unfold TL.val
      unfold TL.cells TL.val at hK
      dsimp only at hK ⊢
      gi_wp2
      exact hK
    case stop => rintro c k W h; exact h.elim
    case done =>
      rintro W ⟨S, g', cap', oa, oc, J⟩ hlt hK
      have hS := J.at_
      rw [List.take_of_length_le (by rw [post_len, HDL.out]; exact Nat.le_refl _), pst_post] at hS
      injection hS with hS
      have hown := J.own
      have hbx := J.box
      have hsv := J.sv
      rw [← hS] at hown hbx hsv
      simp only [List.nil_append, List.length_singleton] at hown hbx hsv
      obtain ⟨zz, hzz⟩ : ∃ z, (mkP H t).2 = z := ⟨_, rfl⟩
      rw [hzz] at hown
      obtain ⟨z, zc, e, zb, zl⟩ := hown.form (by omega)
      injection e with e1 e2 e3
      subst e1
      have cz := hown.cells (g := z) rfl 0 (.int .i64 (zz : Int)) rfl
      rw [add_flat] at cz
      have c8 : W.cell? ⟨v2.heap.size, 0, none⟩ = some (.slice (some ⟨z, 0, none⟩) 1 oc) := cell_box hbx rfl rfl
      have JJ := Lib.hid J; have HSV := Lib.hid hsv; have HZZ := Lib.hid hzz; have HLT := Lib.hid hlt; have HKK := Lib.hid hK
      clear hS hown hbx hsv hzz e2 e3 zb zl J hlt hK
      gi_wp2
      have hz := HZ4.out; have hg := JJ.out.gg; have hf := HF.out; have hw := HW14.out; have hv := HV25.out; have hs := JJ.out.sv.far
      refine ⟨by simp, .inl ⟨_, _, rfl, run_takeDeferred HKK.out, ?_⟩⟩
      refine ⟨.tuple #[.int .i64 (zz : Int), .int .i64 0], by simp [results, Try.f49, go_sem], ⟨JJ.out.kp.os, JJ.out.kp.tape, JJ.out.kp.output, by rw [World.putObj_size]; exact JJ.out.kp.size, fun k hk hm => (World.putObj_heap_other (by omega)).trans (JJ.out.kp.block k hk hm)⟩, ?_⟩
      rw [if_pos ⟨HR1.out, HR2.out⟩, if_pos (by rw [HR.out]; have := HIN.out; omega), HZZ.out]
      refine ⟨g', cap', rfl, ?_, by rcases hg with h | h; exact .inl h; exact .inr (by omega)⟩
      have hsv := HSV.out
      rw [show C + (((mkP H t).1.length : Int) - (H.length : Int)) = C + (inner t : Int) by rw [mkP_len]; omega] at hsv
      exact hsv.same (World.putObj_heap_other (by omega)) (World.putObj_heap_other (by omega))
    case body =>
      rintro l k W W2 hkn ⟨S, g', cap', oa, oc, J⟩ hlt hT hz2
      have hzV := HZ4.out
      have hdl := HDL.out
      have hi : D.length - 1 - k < D.length := by omega
      obtain ⟨x, hx⟩ : ∃ x, D[D.length - 1 - k] = x := ⟨_, rfl⟩
      have hpk : k < (post t).length := by rw [post_len, ← hdl]; exact hkn
      have hpx := post_at HD1.out hpk hi
      rw [hx] at hpx
      obtain ⟨S', B', hA, hB, hAB⟩ := pst_at (pst_post t (H, [])) k hpk
      rw [J.at_] at hA
      injection hA with hA
      subst hA
      rw [hpx] at hB
      have hxo := post_ok t HR1.out HR2.out x.t (by rw [← hpx]; exact List.getElem_mem hpk)
      have hgd : (D.map tlOf).getD (D.length - 1 - k) ⟨0, 0, none, 0, 0⟩ = tlOf x := by rw [List.getD_eq_getElem?_getD, List.getElem?_map, List.getElem?_eq_getElem hi, hx]; rfl
      obtain ⟨xk, xn, xm, hxv⟩ := TV.mk x.t
      have htl : tlOf x = ⟨xk, xn, x.a, xm, x.cap⟩ := by unfold tlOf; rw [hxv.1, hxv.2.1, hxv.2.2]
      rw [hgd, htl] at hT hz2
      simp only [hgd, htl]
      unfold TL.val
      unfold TL.cells at hT hz2
      dsimp only at hT hz2 ⊢
      have hsz2 : W2.heap.size = W.heap.size + 1 := by rw [hz2, World.size_alloc]
      have hxb : W2.heap[W.heap.size]? = some (.cells #[.int .i64 xk, .int .i64 xn, .slice x.a xm x.cap] 26) := hT.heap (World.alloc_heap_new W _) (by omega)
      have far : ∀ z, z < W.heap.size → z ≠ v2.heap.size + 3 → W2.heap[z]? = W.heap[z]? := fun z h1 h2 => (hT.block z (by rw [World.size_alloc]; omega) (by omega)).trans (Below.heap_alloc _ _ _ h1)
      have hs := J.sv.far; have hg := J.gg; have hf := HF.out; have hw := HW14.out; have hv := HV25.out
      have sv2 := J.sv.same (far s (by omega) (by omega)) (far g' (by omega) (by omega))
      have bx2 := (far v2.heap.size (by omega) (by omega)).trans J.box
      have own2 := own_same J.own (fun z hz => far z (J.own.lt z hz).2 (by have := (J.own.lt z hz).1; omega))
      have pt2 := (far w.heap.size (by omega) (by omega)).trans J.ptr
      have src2 := (far (v2.heap.size + 1) (by omega) (by omega)).trans J.src
      have row2 := own_same J.row (fun z hz => far z (J.row.lt z hz).2 (by have := J.low z hz; omega))
      have kp2 : Kp w.heap.size (fun k => k = s ∨ k = g) w W2 := ⟨hT.os.trans J.kp.os, hT.tape.trans J.kp.tape, hT.output.trans J.kp.output, Nat.le_trans J.kp.size (by omega), fun i hi hm => (far i (by have := J.kp.size; omega) (by omega)).trans (J.kp.block i hi hm)⟩
      have c0 : W2.cell? ⟨W.heap.size, 0, none⟩ = some (.int .i64 xk) := cell_box hxb rfl rfl
      have c1 : W2.cell? ⟨W.heap.size, 1, none⟩ = some (.int .i64 xn) := cell_box hxb rfl rfl
      have c2 : W2.cell? ⟨W.heap.size, 2, none⟩ = some (.slice x.a xm x.cap) := cell_box hxb rfl rfl
      obtain ⟨N, hN⟩ : ∃ N, S.2.length = N := ⟨_, rfl⟩
      have hlen := J.len
      rw [hN] at bx2 own2 hlen
      have c8 : W2.cell? ⟨v2.heap.size, 0, none⟩ = some (.slice oa N oc) := cell_box bx2 rfl rfl
      have cp : W2.cell? ⟨w.heap.size, 0, none⟩ = some (.pointer (some ⟨s, 0, none⟩)) := cell_box pt2 rfl rfl
      have HHB := Lib.hid hB; have HAB := Lib.hid hAB; have HXO := Lib.hid hxo; have HXV := Lib.hid hxv; have HSZ2 := Lib.hid hsz2; have HXB := Lib.hid hxb; have HGG := Lib.hid hg; have SV2 := Lib.hid sv2; have BX2 := Lib.hid bx2; have OWN2 := Lib.hid own2; have PT2 := Lib.hid pt2; have SRC2 := Lib.hid src2; have ROW2 := Lib.hid row2; have KP2 := Lib.hid kp2; have HLEN := Lib.hid hlen; have HNN := Lib.hid hN; have HLT := Lib.hid hlt; have HKN := Lib.hid hkn
      clear hB hAB hxo hxv hsz2 hxb hg sv2 bx2 own2 pt2 src2 row2 kp2 hlen hN hlt hkn hzV hdl hi hx hpk hpx hgd htl hT hz2 far hs hf hw hv J
      have hwN : wrap64 (N : Int) = (N : Int) := by have := HLEN.out; have := HKN.out; have := HDL.out; have := HSZ.out; unfold wrap64; omega
      by_cases hxm : xm = 0
      · subst hxm
        have hki : x.t.kids = [] := List.length_eq_zero_iff.1 HXV.out.2.2
        have hB := HHB.out
        unfold pst at hB
        rw [if_pos hki, HXV.out.1] at hB
        injection hB with hB
        have hlf := leaf_of HXO.out.1 HXO.out.2 hki
        rw [HXV.out.1] at hlf
        obtain ⟨nn, hnn⟩ : ∃ q, (xk - 1).toNat = q := ⟨_, rfl⟩
        have hwk : wrap64 (xk - 1) = (nn : Int) := by unfold wrap64; omega
        rw [hnn] at hB
        have HHB2 := Lib.hid (show B' = (S.1, S.2.take N ++ [nn]) by rw [List.take_of_length_le (by rw [HNN.out]; exact Nat.le_refl _)]; exact hB.symm)
        clear hki hB hlf hnn
        gi_upto_region 15 with (refine ⟨trivial, ?_⟩; gi_at_call 52; refine (CallsIn.inRound l (callsIn_wide.2 (leaf12_any xk _))).mono ?_; rintro e wq ⟨rfl, hq⟩; rw [hq]; clear hq wq)
        rw [hwN]
        clear hwk hwN c0 c1 c2 c8 cp
        have HFN := Lib.hid (Nat.le_refl N); have SVU := SV2; have BXU := BX2; have OWNU := OWN2; have PTU := PT2; have SRCU := SRC2; have ROWU := ROW2; have KPU := KP2; have HGU := HGG
        have HSU := Lib.hid (show W2.heap.size ≤ W2.heap.size from Nat.le_refl _)
        have HLN := Lib.hid (show S.1.length ≤ H.length + (k + 1) ∧ H.length ≤ S.1.length by have := HLEN.out; omega)
        have htk : B' = (S.1, S.2.take N ++ [nn]) := HHB2.out
        have hno : N ≤ oc := own_cap OWNU.out
        have hpop := int_pop oa N oc N HFN.out hno
        have hownp := own_takeN OWNU.out HFN.out
        obtain ⟨i0, hi, hz0, hz1, hz2⟩ := info_parts info_int
        have c8 : W2.cell? ⟨v2.heap.size, 0, none⟩ = some (.slice oa N oc) := cell_box BXU.out rfl rfl
        have hbb : N + 1 ≤ maxLen ∧ (N + 1) * 8 ≤ 140737488355328 := by have := HFN.out; have := HLEN.out; have := HKN.out; have := HDL.out; have := HSZ.out; unfold maxLen; omega
        have HOWNP := Lib.hid hownp; have HBB := Lib.hid hbb; have HTK := Lib.hid htk
        have HBAS := Lib.hid (show v2.heap.size + 4 ≤ W2.heap.size by have := HSU.out; have := HLT.out; have := HZ4.out; have := HSZ2.out; omega)
        have h8u := (Array.getElem?_eq_some_iff.1 BXU.out).1
        clear hownp hbb htk hno
        gi_wp2_with (gi_at_builtin; refine wpListIn_append_lies _ rfl (.tmp 62) (.tmp 64) 27 rfl (v2.heap.size + 4) 3 i0 (.int .i64 0) 1 8 Try.underlying27 hi hz0 hz1 hz2 rfl (by decide) (.slice oa N oc) N ((natRow S.2).take N) rfl (HOWNP.out.alloc _) ⟨W2.heap.size, 0, none⟩ 1 1 [.int .i64 (nn : Int)] rfl rfl (World.news_of_block (World.alloc_heap_new W2 _)) (by simp [Value.oneCell']) (by decide) HBB.out.1 HBB.out.2 (Nat.le_trans HBAS.out (by simp)) ?_; intro g1 cap1 w7 hown1 hgr1 hly1; (have e7 : w7.heap[v2.heap.size]? = some (.cells #[.slice oa N oc] 27) := (hgr1.block v2.heap.size (by rw [World.size_alloc]; omega) (fun e => by have := (HOWNP.out.lt _ e.symm).1; omega)).trans ((Below.heap_alloc _ _ _ h8u).trans BXU.out)); (have e75 : w7.cell? ⟨v2.heap.size, 0, none⟩ = some (.slice oa N oc) := cell_box e7 rfl rfl); (have f75 : w7.frozen? ⟨v2.heap.size, 0, none⟩ = false := IsC.frozen ⟨_, _, e7⟩); (have HE7 := Lib.hid e7); (have HOW1 := Lib.hid hown1); (have HGR1 := Lib.hid hgr1); (have HLY1 := Lib.hid hly1); clear e7 hown1 hgr1 hly1)
        have far : ∀ z, z < W2.heap.size → z ≠ v2.heap.size → (Value.slice oa N oc).ownBlock ≠ some z → (w7.setCell ⟨v2.heap.size, 0, none⟩ (.slice (some ⟨g1, 0, none⟩) (N + 1) cap1)).heap[z]? = W2.heap[z]? := fun z hz hne ho =>
          (Below.heap_setCell _ _ _ z hne).trans ((HGR1.out.block z (by rw [World.size_alloc]; omega) (fun e => ho e.symm)).trans (Below.heap_alloc _ _ _ hz))
        have hob : ∀ z, (Value.slice oa N oc).ownBlock = some z → v2.heap.size + 4 ≤ z ∧ z < W2.heap.size := fun z hz => HOWNP.out.lt z hz
        have hf := HF.out; have hw := HW14.out; have hv := HV25.out; have hsf := SVU.out.far; have hbs := HBAS.out; have hgu := HGU.out; have hzV := HZ4.out
        have hgo : (Value.slice oa N oc).ownBlock ≠ some g' := open_far HOWNP.out SVU.out
        have hg1 : v2.heap.size + 4 ≤ g1 ∧ g1 ≠ v2.heap.size := by
          have := (HOW1.out.lt g1 rfl).1; omega
        refine ⟨⟨(far _ (by omega) (by omega) (fun e => by have := hob _ e; omega)), (far _ (by omega) (by omega) (fun e => by have := hob _ e; omega))⟩, (S.1, S.2.take N ++ [nn]), g', cap', some ⟨g1, 0, none⟩, cap1, ?_⟩
        have hlt2 : (S.2.take N ++ [nn]).length = N + 1 := by rw [List.length_append, List.length_take, List.length_singleton, HNN.out]; have := HFN.out; omega
        refine ⟨by rw [HAB.out, HTK.out], SVU.out.same (far s (by omega) (by omega) (fun e => by have := hob _ e; omega)) (far g' (by omega) (by omega) hgo), hgu, ?_, ?_, (far _ (by omega) (by omega) (fun e => by have := hob _ e; omega)).trans PTU.out, (far _ (by omega) (by omega) (fun e => by have := hob _ e; omega)).trans SRCU.out, own_same ROWU.out (fun z hz => far z (ROWU.out.lt z hz).2 (by have := HLOW.out z hz; omega) (fun e => by have := hob _ e; have := HLOW.out z hz; omega)), HLOW.out, ?_, ?_⟩
        · dsimp only
          rw [hlt2]; exact box_set HE7.out
        · dsimp only
          rw [hlt2, show natRow (S.2.take N ++ [nn]) = (natRow S.2).take N ++ [.int .i64 (nn : Int)] by simp [natRow, List.map_take]]
          exact own_same HOW1.out (fun z hz => Below.heap_setCell _ _ _ z (fun (e : z = v2.heap.size) => by have := (HOW1.out.lt z hz).1; omega))
        · exact (((KPU.out.alloc KPU.out.size _).grown HGR1.out (Nat.le_trans KPU.out.size (by simp)) (fun z hz => .inl (by have := hob z hz; omega)))).setCell (.inl (by dsimp only; omega)) _
        · dsimp only
          rw [hlt2]
          exact ⟨HLN.out.1, by have := HFN.out; have := HLEN.out; omega, HLN.out.2⟩
      · skip
        have hki : x.t.kids ≠ [] := fun h => hxm (by rw [← HXV.out.2.2, h]; rfl)
        have hB := HHB.out
        unfold pst at hB
        rw [if_neg hki, HNN.out, HXV.out.2.2, HXV.out.1] at hB
        by_cases hnl : N < xm
        · rw [if_pos hnl] at hB; cases hB
        rw [if_neg hnl] at hB
        injection hB with hB
        have hm2' : xm ≤ 2 := by have h9 := node_of HXO.out.1; rw [HXV.out.2.2] at h9; have := ar_le x.t.kind; omega
        obtain ⟨f, hf⟩ : ∃ q, N - xm = q := ⟨_, rfl⟩
        rw [hf] at hB
        obtain ⟨nn, hnn⟩ : ∃ q, S.1.length = q := ⟨_, rfl⟩
        rw [hnn] at hB
        obtain ⟨ks, hks⟩ : ∃ q, S.2.drop f = q := ⟨_, rfl⟩
        rw [hks] at hB
        have hkl : ks.length = xm := by rw [← hks, List.length_drop, HNN.out]; omega
        have hwf : wrap64 ((N : Int) - (xm : Int)) = (f : Int) := by have := HLEN.out; have := HKN.out; have := HDL.out; have := HSZ.out; unfold wrap64; omega
        have hgt : decide (0 < xm) = true := by simp; omega
        obtain ⟨zo, zc, eo, zb, zl⟩ := OWN2.out.form (by omega : 0 < N)
        injection eo with e1 e2 e3
        subst e1
        clear e2 e3
        have HHB2 := Lib.hid (show B' = (S.1 ++ [ptNode xk ks nn], S.2.take f ++ [nn]) from hB.symm)
        have HFN := Lib.hid (show f ≤ N by omega); have HFX := Lib.hid (show f < N ∧ N - f = xm by omega); have HKL := Lib.hid hkl; have HKS := Lib.hid hks; have HSN := Lib.hid hnn; have HM2X := Lib.hid hm2'; have HXM := Lib.hid (show 0 < xm by omega)
        clear hki hB hnl hm2' hf hnn hks hkl
        gi_upto_region 13 with (refine ⟨trivial, ?_⟩; gi_at_call 52; refine (CallsIn.inRound l (callsIn_wide.2 (leaf12_any xk _))).mono ?_; rintro e wq ⟨rfl, hq⟩; rw [hq]; clear hq wq)
        rw [hwf]
        clear hwf hwN hgt c0 c1 c2 c8 cp
        obtain ⟨V9, hV9⟩ : ∃ W, W2.alloc (.cells #[.int .i64 xk, .int .i64 0, .int .i64 0, .int .i64 0, .int .i64 0, .int .i64 0] 88) = W := ⟨_, rfl⟩
        rw [hV9]
        have hb9 : Below W2.heap.size W2 V9 := by rw [← hV9]; exact (Below.refl _ _).alloc (Nat.le_refl _) _
        have hx9 : V9.heap[W2.heap.size]? = some (.cells #[.int .i64 xk, .int .i64 0, .int .i64 0, .int .i64 0, .int .i64 0, .int .i64 0] 88) := by rw [← hV9]; exact World.alloc_heap_new _ _
        have h8l := (Array.getElem?_eq_some_iff.1 BX2.out).1
        have hcell8 := fun xx (hb : Below W2.heap.size W2 xx) => (cell_box ((hb.block _ h8l).trans BX2.out) rfl rfl : xx.cell? ⟨v2.heap.size, 0, none⟩ = some (.slice (some ⟨zo, 0, none⟩) N oc))
        have hfr := int_from zo 0 N oc f HFX.out.1 (own_cap OWN2.out)
        rw [Nat.zero_add, HFX.out.2] at hfr
        have har := arr_all W2.heap.size 2
        have HB9 := Lib.hid hb9; have HX9' := Lib.hid hx9; have HCELL8 := Lib.hid hcell8
        clear hV9 hb9 hx9 h8l hcell8
        refine wpIn_only ?_
        obtain ⟨U0, hU0⟩ : ∃ x, V9.drew = x := ⟨_, rfl⟩
        have HS0 := Lib.hid (show Below W2.heap.size W2 U0 by rw [← hU0]; exact HB9.out.drew)
        have HXU := Lib.hid (show U0.heap[W2.heap.size]? = some (.cells #[.int .i64 xk, .int .i64 0, .int .i64 0, .int .i64 0, .int .i64 0, .int .i64 0] 88) by rw [← hU0]; exact HX9'.out)
        refine wpIn_region_round hm2 (by kernel_rfl) (by rintro ⟨_, _, h⟩; exact h) ?_
        rw [hU0]
        refine wpAny_of_held (S := fun x => Below W2.heap.size W2 x) _ _ _ _ ?_
        clear hU0
        refine wpAnyH_take (i := 0) (oi := ⟨some 51, _, _, _, _, _⟩) (v := ?_) rfl (by kernel_rfl) (by kernel_rfl) (by kernel_rfl) (fun _ _ _ h => h.elim) (Or.inl ⟨by rfl, ?_⟩) HS0.out ?_
        rotate_left
        · (intro xx hSw; have c8 := HCELL8.out _ hSw; go_simp; (try with_reducible rfl))
        try simp only [Act.put, List.setIfInBounds_toArray, List.set_cons_zero, List.set_cons_succ]
        refine wpAnyH_take (i := 1) (oi := ⟨some 52, _, _, _, _, _⟩) (v := ?_) rfl (by kernel_rfl) (by kernel_rfl) (by kernel_rfl) (fun _ _ _ h => h.elim) (Or.inl ⟨by rfl, ?_⟩) HS0.out ?_
        rotate_left
        · (intro xx hSw; have c8 := HCELL8.out _ hSw; go_simp; (try with_reducible rfl))
        try simp only [Act.put, List.setIfInBounds_toArray, List.set_cons_zero, List.set_cons_succ]
        refine wpAnyH_take (i := 2) (oi := ⟨some 53, _, _, _, _, _⟩) (v := ?_) rfl (by kernel_rfl) (by kernel_rfl) (by kernel_rfl) (fun _ _ _ h => h.elim) (Or.inl ⟨by rfl, ?_⟩) HS0.out ?_
        rotate_left
        · (intro xx hSw; have c8 := HCELL8.out _ hSw; go_simp; (try with_reducible rfl))
        try simp only [Act.put, List.setIfInBounds_toArray, List.set_cons_zero, List.set_cons_succ]
        refine wpAnyH_take (i := 3) (oi := ⟨some 54, _, _, _, _, _⟩) (v := ?_) rfl (by kernel_rfl) (by kernel_rfl) (by kernel_rfl) (fun _ _ _ h => h.elim) (Or.inl ⟨by rfl, ?_⟩) HS0.out ?_
        rotate_left
        · (intro xx hSw; have c8 := HCELL8.out _ hSw; go_simp; (try with_reducible rfl))
        try simp only [Act.put, List.setIfInBounds_toArray, List.set_cons_zero, List.set_cons_succ]
        refine wpAnyH_take (i := 4) (oi := ⟨some 55, _, _, _, _, _⟩) (v := ?_) rfl (by kernel_rfl) (by kernel_rfl) (by kernel_rfl) (fun _ _ _ h => h.elim) (Or.inl ⟨by rfl, ?_⟩) HS0.out ?_
        rotate_left
        · (intro xx hSw; have c8 := HCELL8.out _ hSw; go_simp; (try with_reducible rfl))
        try simp only [Act.put, List.setIfInBounds_toArray, List.set_cons_zero, List.set_cons_succ]

        refine wpAnyH_ready (rs := [5]) (by kernel_rfl) (by simp) ?_
        refine AllReadyH.cons (o := ⟨some 56, _, _, _, _, _⟩) rfl (fun K hK => ?_) AllReadyH.nil
        refine step_copy_splice rfl (.tmp 52) (.tmp 55) 27 27 rfl 3 Try.underlying27 (by kernel_rfl) (some ⟨W2.heap.size, 2, none⟩) (some ⟨zo, f, none⟩) 2 2 xm (oc - f) rfl rfl W2.heap.size 2 [.int .i64 xk, .int .i64 0, .int .i64 0, .int .i64 0, .int .i64 0, .int .i64 0] 88 HXU.out (natRow ks) ?hn ?hpos ?hfit (natRow_one _) W2.heap.size W2 HS0.out (Nat.le_refl _) ?_
        case hn =>
          have h1 := HKL.out; have h2 := HM2X.out
          simp only [natRow, List.length_map]
          rw [h1]; exact (Nat.min_eq_left h2).symm
        case hfit =>
          have h1 := HKL.out; have h2 := HM2X.out
          simp only [natRow, List.length_map, List.length_cons, List.length_nil]; omega
        case hpos =>
          intro _
          refine ⟨rfl, _, rfl, fun j v hj => ?_⟩
          have hc := OWN2.out.cells (g := zo) rfl (f + j) v (by rw [← HKS.out] at hj; unfold natRow at hj ⊢; rw [List.map_drop, List.getElem?_drop] at hj; exact hj)
          rw [add_flat, Nat.zero_add] at hc
          rw [add_flat]
          exact (World.cell?_of_block (a := ⟨zo, f + j, none⟩) (HS0.out.block zo (OWN2.out.lt zo rfl).2)).trans hc
        intro w9 hg9 hb9
        have HG9 := hg9
        have HB10 := Lib.hid hb9
        clear hg9 hb9
        refine hK.out _ _ HB10.out (fun _ => ?_)
        clear hK K
        try simp only [Act.put, List.setIfInBounds_toArray, List.set_cons_zero, List.set_cons_succ]
        refine wpAnyH_done (by kernel_rfl) ?_ _
        have hx9 := HG9.out
        rw [splice_kids xk ks (by rw [HKL.out]; exact HXM.out) (by rw [HKL.out]; exact HM2X.out)] at hx9
        obtain ⟨y1, hy1⟩ : ∃ q, ks.getD 0 0 = q := ⟨_, rfl⟩
        obtain ⟨y2, hy2⟩ : ∃ q, ks.getD 1 0 = q := ⟨_, rfl⟩
        rw [hy1, hy2] at hx9
        have d0 : w9.cell? ⟨W2.heap.size, 0, none⟩ = some (.int .i64 xk) := cell_box hx9 rfl rfl
        have d1 : w9.cell? ⟨W2.heap.size, 1, none⟩ = some (.int .i64 0) := cell_box hx9 rfl rfl
        have d2 : w9.cell? ⟨W2.heap.size, 2, none⟩ = some (.int .i64 (y1 : Int)) := cell_box hx9 rfl rfl
        have d3 : w9.cell? ⟨W2.heap.size, 3, none⟩ = some (.int .i64 (y2 : Int)) := cell_box hx9 rfl rfl
        have d4 : w9.cell? ⟨W2.heap.size, 4, none⟩ = some (.int .i64 0) := cell_box hx9 rfl rfl
        have d5 : w9.cell? ⟨W2.heap.size, 5, none⟩ = some (.int .i64 0) := cell_box hx9 rfl rfl
        have cp : w9.cell? ⟨w.heap.size, 0, none⟩ = some (.pointer (some ⟨s, 0, none⟩)) := cell_box ((HB10.out.block _ (Array.getElem?_eq_some_iff.1 PT2.out).1).trans PT2.out) rfl rfl
        have hsv9 := SV2.out.below HB10.out
        have hadd := add12_any hsv9 ⟨xk, 0, (y1 : Int), (y2 : Int), 0⟩ 0 (by have := HLEN.out; have := HBD.out.n; have := HBD.out.cl; have := HBD.out.l; have := HKN.out; have := HDL.out; have := HSZ.out; omega) (by have := HLEN.out; have := HBD.out.c0; have := HBD.out.cl; have := HBD.out.l; have := HKN.out; have := HDL.out; have := HSZ.out; omega)
        rw [HSN.out] at hadd
        have HADD := Lib.hid hadd; have HY := Lib.hid (And.intro hy1 hy2); have SV9 := Lib.hid hsv9
        clear hadd hy1 hy2 hx9 hsv9 HG9 hfr har
        gi_upto_region 15 with (refine ⟨trivial, ?_⟩; gi_at_call 80; refine (CallsIn.inRound l (callsIn_wide.2 HADD.out)).mono ?_; clear d0 d1 d2 d3 d4 d5 cp; rintro e w10 ⟨rfl, hap⟩; have HAP := Lib.hid hap; clear hap)
        obtain ⟨gU, capU, hsvu, hkpu, hgu⟩ := HAP.out
        have hs2 := SV2.out.far; have hg2 := HGG.out; have hf2 := HF.out; have hw2 := HW14.out; have hv2 := HV25.out; have hb2' := HB10.out.size; have hzv := HZ4.out; have hlt2 := HLT.out; have hz2' := HSZ2.out
        have faru : ∀ q, q < W2.heap.size → q ≠ s → q ≠ g' → w10.heap[q]? = W2.heap[q]? := fun q h1 h2 h3 => (hkpu.block q (by omega) (by omega)).trans (HB10.out.block q h1)
        have hgo2 : zo ≠ g' := fun e => open_far OWN2.out SV2.out (by rw [← e]; rfl)
        have hzl := OWN2.out.lt zo rfl
        have hsl : (S.1.length : Int) = (nn : Int) := by rw [HSN.out]
        have SVU := Lib.hid (show SV B s gU capU L (C + (((S.1 ++ [ptNode xk ks nn]).length : Int) - (H.length : Int))) K w10 (S.1 ++ [ptNode xk ks nn]) by
          have h9 := hsvu
          rw [HSN.out] at h9
          unfold ptNode
          rw [HY.out.1, HY.out.2, List.length_append, List.length_singleton]
          rw [show C + (((S.1.length + 1 : Nat) : Int) - (H.length : Int)) = C + ((S.1.length : Int) - (H.length : Int)) + 1 by omega]
          rw [HSN.out]
          exact h9)
        have HGU := Lib.hid (show gU = g ∨ v2.heap.size + 3 < gU by rcases hgu with h | h; rw [h]; exact hg2; right; omega)
        have BXU := Lib.hid ((faru v2.heap.size (by omega) (by omega) (by omega)).trans BX2.out)
        have OWNU := Lib.hid (own_same OWN2.out (fun q hq => faru q (OWN2.out.lt q hq).2 (by have := (OWN2.out.lt q hq).1; omega) ((by (have e9 : zo = q := by injection hq); rw [← e9]; exact hgo2))))
        have PTU := Lib.hid ((faru w.heap.size (by omega) (by omega) (by omega)).trans PT2.out)
        have SRCU := Lib.hid ((faru (v2.heap.size + 1) (by omega) (by omega) (by omega)).trans SRC2.out)
        have ROWU := Lib.hid (own_same ROW2.out (fun q hq => faru q (ROW2.out.lt q hq).2 (by have := (ROW2.out.lt q hq).1; omega) (by have := (ROW2.out.lt q hq).1; have := HLOW.out q hq; omega)))
        have KPU := Lib.hid ((KP2.out.trans (Kp.of_below (HB10.out.mono KP2.out.size))).trans (hkpu.mono (Nat.le_trans KP2.out.size hb2') (fun q h1 h2 => by rcases h2 with h2 | h2; exact .inl h2; right; omega)))
        have HSU := Lib.hid (show W2.heap.size ≤ w10.heap.size from Nat.le_trans hb2' hkpu.size)
        have FARU := Lib.hid (show ∀ q, v2.heap.size + 2 ≤ q → q ≤ v2.heap.size + 3 → w10.heap[q]? = W2.heap[q]? from fun q h1 h2 => faru q (by omega) (by omega) (by omega))
        have HLN := Lib.hid (show (S.1 ++ [ptNode xk ks nn]).length ≤ H.length + (k + 1) ∧ H.length ≤ (S.1 ++ [ptNode xk ks nn]).length by have := HLEN.out; rw [List.length_append, List.length_singleton]; omega)
        clear hsvu hkpu hgu hs2 hg2 hf2 hw2 hv2 hb2' hzv hlt2 hz2' faru hgo2 hzl hsl HAP HADD
        have htk : B' = ((S.1 ++ [ptNode xk ks nn]), S.2.take f ++ [nn]) := HHB2.out
        have hno : N ≤ oc := own_cap OWNU.out
        have hpop := int_pop (some ⟨zo, 0, none⟩) N oc f HFN.out hno
        have hownp := own_takeN OWNU.out HFN.out
        obtain ⟨i0, hi, hz0, hz1, hz2⟩ := info_parts info_int
        have c8 : w10.cell? ⟨v2.heap.size, 0, none⟩ = some (.slice (some ⟨zo, 0, none⟩) N oc) := cell_box BXU.out rfl rfl
        have hbb : f + 1 ≤ maxLen ∧ (f + 1) * 8 ≤ 140737488355328 := by have := HFN.out; have := HLEN.out; have := HKN.out; have := HDL.out; have := HSZ.out; unfold maxLen; omega
        have HOWNP := Lib.hid hownp; have HBB := Lib.hid hbb; have HTK := Lib.hid htk
        have HBAS := Lib.hid (show v2.heap.size + 4 ≤ w10.heap.size by have := HSU.out; have := HLT.out; have := HZ4.out; have := HSZ2.out; omega)
        have h8u := (Array.getElem?_eq_some_iff.1 BXU.out).1
        clear hownp hbb htk hno
        gi_wp2_with (gi_at_builtin; refine wpListIn_append_lies _ rfl (.tmp 62) (.tmp 64) 27 rfl (v2.heap.size + 4) 3 i0 (.int .i64 0) 1 8 Try.underlying27 hi hz0 hz1 hz2 rfl (by decide) (.slice (some ⟨zo, 0, none⟩) f oc) f ((natRow S.2).take f) rfl (HOWNP.out.alloc _) ⟨w10.heap.size, 0, none⟩ 1 1 [.int .i64 (nn : Int)] rfl rfl (World.news_of_block (World.alloc_heap_new w10 _)) (by simp [Value.oneCell']) (by decide) HBB.out.1 HBB.out.2 (Nat.le_trans HBAS.out (by simp)) ?_; intro g1 cap1 w7 hown1 hgr1 hly1; (have e7 : w7.heap[v2.heap.size]? = some (.cells #[.slice (some ⟨zo, 0, none⟩) N oc] 27) := (hgr1.block v2.heap.size (by rw [World.size_alloc]; omega) (fun e => by have := (HOWNP.out.lt _ e.symm).1; omega)).trans ((Below.heap_alloc _ _ _ h8u).trans BXU.out)); (have e75 : w7.cell? ⟨v2.heap.size, 0, none⟩ = some (.slice (some ⟨zo, 0, none⟩) N oc) := cell_box e7 rfl rfl); (have f75 : w7.frozen? ⟨v2.heap.size, 0, none⟩ = false := IsC.frozen ⟨_, _, e7⟩); (have HE7 := Lib.hid e7); (have HOW1 := Lib.hid hown1); (have HGR1 := Lib.hid hgr1); (have HLY1 := Lib.hid hly1); clear e7 hown1 hgr1 hly1)
        have far : ∀ z, z < w10.heap.size → z ≠ v2.heap.size → (Value.slice (some ⟨zo, 0, none⟩) f oc).ownBlock ≠ some z → (w7.setCell ⟨v2.heap.size, 0, none⟩ (.slice (some ⟨g1, 0, none⟩) (f + 1) cap1)).heap[z]? = w10.heap[z]? := fun z hz hne ho =>
          (Below.heap_setCell _ _ _ z hne).trans ((HGR1.out.block z (by rw [World.size_alloc]; omega) (fun e => ho e.symm)).trans (Below.heap_alloc _ _ _ hz))
        have hob : ∀ z, (Value.slice (some ⟨zo, 0, none⟩) f oc).ownBlock = some z → v2.heap.size + 4 ≤ z ∧ z < w10.heap.size := fun z hz => HOWNP.out.lt z hz
        have hf := HF.out; have hw := HW14.out; have hv := HV25.out; have hsf := SVU.out.far; have hbs := HBAS.out; have hgu := HGU.out; have hzV := HZ4.out
        have hgo : (Value.slice (some ⟨zo, 0, none⟩) f oc).ownBlock ≠ some gU := open_far HOWNP.out SVU.out
        have hg1 : v2.heap.size + 4 ≤ g1 ∧ g1 ≠ v2.heap.size := by
          have := (HOW1.out.lt g1 rfl).1; omega
        refine ⟨⟨(far _ (by omega) (by omega) (fun e => by have := hob _ e; omega)).trans (FARU.out _ (by omega) (by omega)), (far _ (by omega) (by omega) (fun e => by have := hob _ e; omega)).trans (FARU.out _ (by omega) (by omega))⟩, ((S.1 ++ [ptNode xk ks nn]), S.2.take f ++ [nn]), gU, capU, some ⟨g1, 0, none⟩, cap1, ?_⟩
        have hlt2 : (S.2.take f ++ [nn]).length = f + 1 := by rw [List.length_append, List.length_take, List.length_singleton, HNN.out]; have := HFN.out; omega
        refine ⟨by rw [HAB.out, HTK.out], SVU.out.same (far s (by omega) (by omega) (fun e => by have := hob _ e; omega)) (far gU (by omega) (by omega) hgo), hgu, ?_, ?_, (far _ (by omega) (by omega) (fun e => by have := hob _ e; omega)).trans PTU.out, (far _ (by omega) (by omega) (fun e => by have := hob _ e; omega)).trans SRCU.out, own_same ROWU.out (fun z hz => far z (ROWU.out.lt z hz).2 (by have := HLOW.out z hz; omega) (fun e => by have := hob _ e; have := HLOW.out z hz; omega)), HLOW.out, ?_, ?_⟩
        · dsimp only
          rw [hlt2]; exact box_set HE7.out
        · dsimp only
          rw [hlt2, show natRow (S.2.take f ++ [nn]) = (natRow S.2).take f ++ [.int .i64 (nn : Int)] by simp [natRow, List.map_take]]
          exact own_same HOW1.out (fun z hz => Below.heap_setCell _ _ _ z (fun (e : z = v2.heap.size) => by have := (HOW1.out.lt z hz).1; omega))
        · exact (((KPU.out.alloc KPU.out.size _).grown HGR1.out (Nat.le_trans KPU.out.size (by simp)) (fun z hz => .inl (by have := hob z hz; omega)))).setCell (.inl (by dsimp only; omega)) _
        · dsimp only
          rw [hlt2]
          exact ⟨HLN.out.1, by have := HFN.out; have := HLEN.out; omega, HLN.out.2⟩
  · have HIN := Lib.hid hin
    clear hin
    refine wp_region_seq [(0, false), (0, false), (0, true), (0, true), (0, false), (0, false), (0, false), (0, false), (0, false)] (by kernel_rfl) (by kernel_rfl) (by kernel_rfl) (fun _ _ _ d _ h => by cases d <;> exact h) ?_
    repeat
      first
      | (first | with_reducible refine sp0 (fun K hK => ?_) | with_reducible refine sp1 (fun K hK => ?_) | with_reducible refine sp2 (fun K hK => ?_) | with_reducible refine sp3 (fun K hK => ?_) | with_reducible refine sp4 (fun K hK => ?_)
         go_simp
         first
         | (with_reducible refine hK _ _ ?_; clear hK K)
         | (with_reducible apply Exists.intro
            refine ⟨fun x hx => ?_, hK _ _ ?_⟩
            first
              | (with_reducible exact rfl)
              | (have y0 := keepc hx c0; have y1 := keepc hx c1; have y2 := keepc hx c2; have y3 := keepc hx d0; go_simp; done)
              | (have y0 := keepc hx c0; have y1 := keepc hx c1; have y2 := keepc hx c2; have y3 := keepc hx d0; go_simp; with_reducible exact rfl)
            clear hK K))
      | (first | with_reducible refine sk0 ?_ (fun K hK => ?_) | with_reducible refine sk1 ?_ (fun K hK => ?_) | with_reducible refine sk2 ?_ (fun K hK => ?_) | with_reducible refine sk3 ?_ (fun K hK => ?_) | with_reducible refine sk4 ?_ (fun K hK => ?_)
         rfl
         go_simp
         with_reducible refine hK _ _ ?_
         clear hK K)
    first | with_reducible refine sc0 (fun K hK => ?_) | with_reducible refine sc1 (fun K hK => ?_) | with_reducible refine sc2 (fun K hK => ?_) | with_reducible refine sc3 (fun K hK => ?_) | with_reducible refine sc4 (fun K hK => ?_)
    go_simp
    refine (HRM.out _ HBD4.out).mono ?_
    clear c0 c1 c2 d0
    rintro e v1 ⟨rfl, hb9⟩
    refine ⟨hb9, hK _ _ ?_⟩
    clear hK K
    have HC1 := Lib.hid (HBD4.out.trans (hb9.mono (HLE.out _ HBD4.out)))
    clear hb9
    obtain ⟨c0, c1, c2, d0⟩ := HCELL.out v1 HC1.out
    repeat
      first
      | (first | with_reducible refine sp0 (fun K hK => ?_) | with_reducible refine sp1 (fun K hK => ?_) | with_reducible refine sp2 (fun K hK => ?_) | with_reducible refine sp3 (fun K hK => ?_) | with_reducible refine sp4 (fun K hK => ?_)
         go_simp
         first
         | (with_reducible refine hK _ _ ?_; clear hK K)
         | (with_reducible apply Exists.intro
            refine ⟨fun x hx => ?_, hK _ _ ?_⟩
            first
              | (with_reducible exact rfl)
              | (have y0 := keepc hx c0; have y1 := keepc hx c1; have y2 := keepc hx c2; have y3 := keepc hx d0; go_simp; done)
              | (have y0 := keepc hx c0; have y1 := keepc hx c1; have y2 := keepc hx c2; have y3 := keepc hx d0; go_simp; with_reducible exact rfl)
            clear hK K))
      | (first | with_reducible refine sk0 ?_ (fun K hK => ?_) | with_reducible refine sk1 ?_ (fun K hK => ?_) | with_reducible refine sk2 ?_ (fun K hK => ?_) | with_reducible refine sk3 ?_ (fun K hK => ?_) | with_reducible refine sk4 ?_ (fun K hK => ?_)
         rfl
         go_simp
         with_reducible refine hK _ _ ?_
         clear hK K)
    first | with_reducible refine sc0 (fun K hK => ?_) | with_reducible refine sc1 (fun K hK => ?_) | with_reducible refine sc2 (fun K hK => ?_) | with_reducible refine sc3 (fun K hK => ?_) | with_reducible refine sc4 (fun K hK => ?_)
    go_simp
    refine (HBK.out _ HC1.out).mono ?_
    intro e v2 hp
    obtain ⟨hb, hp⟩ := hp
    rw [if_neg HIN.out] at hp
    subst hp
    have HB5 := Lib.hid (HC1.out.trans (hb.mono (HLE.out _ HC1.out)))
    refine ⟨hb, hK _ _ ?_⟩
    clear hK K
    clear hb c0 c1 c2 d0
    repeat
      first
      | (first | with_reducible refine sp0 (fun K hK => ?_) | with_reducible refine sp1 (fun K hK => ?_) | with_reducible refine sp2 (fun K hK => ?_) | with_reducible refine sp3 (fun K hK => ?_) | with_reducible refine sp4 (fun K hK => ?_)
         go_simp
         first
         | (with_reducible refine hK _ _ ?_; clear hK K)
         | (with_reducible apply Exists.intro
            refine ⟨fun x hx => ?_, hK _ _ ?_⟩
            first
              | (with_reducible exact rfl)
            clear hK K))
      | (first | with_reducible refine sk0 ?_ (fun K hK => ?_) | with_reducible refine sk1 ?_ (fun K hK => ?_) | with_reducible refine sk2 ?_ (fun K hK => ?_) | with_reducible refine sk3 ?_ (fun K hK => ?_) | with_reducible refine sk4 ?_ (fun K hK => ?_)
         rfl
         go_simp
         with_reducible refine hK _ _ ?_
         clear hK K)
    with_reducible refine seq_nil ?_
    gi_wp2
    refine ⟨.tuple #[.int .i64 0, .int .i64 7], by simp [results, Try.f49, go_sem], Kp.of_below (((HB2.out.tr HB4.out (Nat.le_refl _)).drew).trans (HB5.out.mono (by have := HW14.out; omega))), ?_⟩
    rw [if_pos ⟨HR1.out, HR2.out⟩, if_neg (by rw [HR.out]; have := HIN.out; omega)]
    exact ⟨rfl, ((HSV2.out.below HB4.out).drew).below HB5.out⟩
/-- The same, of a type that lies below the store. -/
theorem put12_any (h : SV B s g cap L C K w H) (hBd : Bds L C H) (t : T) (a : Option Addr) (c n0 : Nat) (hsz : Tp.size t ≤ 10000) (hn0 : n0 ≤ B) (hB : B ≤ w.heap.size) (hty : TyAt (LT n0) w t a c) :
    Calls Try.prog 49 #[.pointer (some ⟨s, 0, none⟩), tv t a c] w (PtP B s g cap L C K H t w) :=
  put12_anyW h hBd t a c n0 hsz (Nat.le_trans hn0 hB) hB hty
end
end Go.Proofs.Yteolbbgnkbcfmaa
