/- agree.Agree, walked. -/
import Derived.Test.YteolbbgnkbcfmaaAgA
namespace Go.Proofs.Yteolbbgnkbcfmaa
open Go Go.RowKit Go.Shelf
open Tp (T)

attribute [local go_sem] Oper.semAt_some

set_option maxRecDepth 100000 in
set_option maxHeartbeats 4000000 in
theorem agree_any (t : T) (a : Option Addr) (cap : Nat) (u : T) (b : Option Addr) (cap' : Nat) (w : World) (hst : Tp.size t ≤ 10000) (hsu : Tp.size u ≤ 10000) (hty : TyAt (LT w.heap.size) w t a cap) (hty' : TyAt (LT w.heap.size) w u b cap') :
    Calls Try.prog 42 #[tv t a cap, tv u b cap'] w fun e w' => e = .returned (.bool (Tp.right t && Tp.right u && Tp.agree t u)) ∧ Below w.heap.size w w' := by
  refine callsIn_wide (n := 9) |>.1 ?_
  obtain ⟨k0, hk0⟩ : ∃ k0, t.kind = k0 := ⟨_, rfl⟩
  obtain ⟨n0, hn0⟩ : ∃ n0, t.num = n0 := ⟨_, rfl⟩
  obtain ⟨m0, hm0⟩ : ∃ m0, t.kids.length = m0 := ⟨_, rfl⟩
  obtain ⟨k9, hk9⟩ : ∃ k0, u.kind = k0 := ⟨_, rfl⟩
  obtain ⟨n9, hn9⟩ : ∃ n0, u.num = n0 := ⟨_, rfl⟩
  obtain ⟨m9, hm9⟩ : ∃ m0, u.kids.length = m0 := ⟨_, rfl⟩
  have hct := fun w1 (hb : Below w.heap.size w w1) => check_any t a cap w1 hst (hty.below hb (fun _ h => h) (fun b h => Nat.lt_of_lt_of_le h hb.size))
  have hcu := fun w1 (hb : Below w.heap.size w w1) => check_any u b cap' w1 hsu (hty'.below hb (fun _ h => h) (fun b h => Nat.lt_of_lt_of_le h hb.size))
  obtain ⟨rt, hrt⟩ : ∃ r, Tp.right t = r := ⟨_, rfl⟩
  obtain ⟨ru, hru⟩ : ∃ r, Tp.right u = r := ⟨_, rfl⟩
  have HRT := Lib.hid hrt; have HRU := Lib.hid hru
  rw [hrt, hru]
  rw [hrt] at hct; rw [hru] at hcu
  have HBO := Lib.hid (fun pa na ca pb nb cb w => both_any pa na ca pb nb cb w)
  unfold tv at hct hcu ⊢
  rw [hk0, hn0, hm0] at hct
  rw [hk9, hn9, hm9] at hcu
  rw [hk0, hn0, hm0, hk9, hn9, hm9]
  have HCT := Lib.hid hct; have HCU := Lib.hid hcu; have HTY := Lib.hid hty; have HTU := Lib.hid hty'
  have HK0 := Lib.hid hk0; have HN0 := Lib.hid hn0; have HM0 := Lib.hid hm0; have HK9 := Lib.hid hk9; have HN9 := Lib.hid hn9; have HM9 := Lib.hid hm9
  clear hct hcu hty hty' hk0 hn0 hm0 hk9 hn9 hm9 hrt hru
  refine callsIn_of_wp_marks Try.func42 rfl trivial ?_ rfl
  simp only [Try.ntmps42, List.size_toArray, List.length_cons, List.length_nil, Nat.reduceAdd, Nat.reduceSub, Array.replicate_succ, Array.replicate_zero, List.push_toArray, List.append_toArray, List.nil_append, List.cons_append]
  obtain ⟨W2, hW2⟩ : ∃ W2, [Obj.cells #[.int .i64 k0, .int .i64 n0, .slice a m0 cap] 26, .cells #[.int .i64 k9, .int .i64 n9, .slice b m9 cap'] 26, .cells #[.bool false] 4].foldl World.alloc w = W2 := ⟨_, rfl⟩
  have hb2 : Below w.heap.size w W2 := by rw [← hW2]; exact bl_below _ _ (Nat.le_refl _)
  have hx0 : W2.heap[w.heap.size]? = some (.cells #[.int .i64 k0, .int .i64 n0, .slice a m0 cap] 26) := by rw [← hW2]; exact bl_get _ w 0 _ rfl
  have hx1 : W2.heap[w.heap.size + 1]? = some (.cells #[.int .i64 k9, .int .i64 n9, .slice b m9 cap'] 26) := by rw [← hW2]; exact bl_get _ w 1 _ rfl
  have hx2 : W2.heap[w.heap.size + 1 + 1]? = some (.cells #[.bool false] 4) := by rw [← hW2]; exact bl_get _ w 2 _ rfl
  have hs2 : W2.heap.size = w.heap.size + 3 := by rw [← hW2]; exact bl_size _ _
  have HB2 := Lib.hid hb2; have HX0 := Lib.hid hx0; have HX1 := Lib.hid hx1; have HX2 := Lib.hid hx2; have HS2 := Lib.hid hs2
  have HW2 := Lib.hid (show ((w.alloc (.cells #[.int .i64 k0, .int .i64 n0, .slice a m0 cap] 26)).alloc (.cells #[.int .i64 k9, .int .i64 n9, .slice b m9 cap'] 26)).alloc (.cells #[.bool false] 4) = W2 from hW2)
  have HCELL := Lib.hid (show ∀ w1, Below W2.heap.size W2 w1 → w1.cell? ⟨w.heap.size, 0, none⟩ = some (.int .i64 k0) ∧ w1.cell? ⟨w.heap.size, 1, none⟩ = some (.int .i64 n0) ∧ w1.cell? ⟨w.heap.size, 2, none⟩ = some (.slice a m0 cap) ∧ w1.cell? ⟨w.heap.size + 1, 0, none⟩ = some (.int .i64 k9) ∧ w1.cell? ⟨w.heap.size + 1, 1, none⟩ = some (.int .i64 n9) ∧ w1.cell? ⟨w.heap.size + 1, 2, none⟩ = some (.slice b m9 cap') ∧ w1.cell? ⟨w.heap.size + 1 + 1, 0, none⟩ = some (.bool false) ∧ w1.frozen? ⟨w.heap.size + 1 + 1, 0, none⟩ = false from fun w1 h =>
    ⟨cell_box hx0 (h.block _ (by omega)) rfl, cell_box hx0 (h.block _ (by omega)) rfl, cell_box hx0 (h.block _ (by omega)) rfl, cell_box hx1 (h.block _ (by omega)) rfl, cell_box hx1 (h.block _ (by omega)) rfl, cell_box hx1 (h.block _ (by omega)) rfl, cell_box hx2 (h.block _ (by omega)) rfl, Boxed.frozen ((h.block _ (by omega)).trans hx2)⟩)
  have HLT := Lib.hid (show w.heap.size + 1 + 1 < W2.heap.size from by omega)
  have HGE := Lib.hid (show w.heap.size ≤ w.heap.size + 1 + 1 from by omega)
  clear hb2 hx0 hx1 hx2 hs2 hW2
  gi_upto_region 1 with fail
  rw [HW2.out]
  obtain ⟨c0, c1, c2, d0, d1, d2, r0, f0⟩ := HCELL.out _ (Below.refl _ _)
  cases rt with
  | false =>
    gi_wp2_with (first | (refine ⟨trivial, ?_⟩; gi_at_call 97; (with_reducible refine (callsIn_wide.2 (HCT.out _ HB2.out)).mono ?_); clear c0 c1 c2 d0 d1 d2 r0 f0; rintro e w1 ⟨rfl, hb1⟩; obtain ⟨c0, c1, c2, d0, d1, d2, r0, f0⟩ := HCELL.out w1 hb1; have HB1 := Lib.hid hb1; clear hb1) | (refine ⟨trivial, ?_⟩))
    refine ⟨.bool false, ?_, rfl, ?_⟩
    · have hr5 := (HB1.out.block _ HLT.out).trans HX2.out
      have hc6 := Boxed.set (.bool false) hr5
      have hc5 := cell_box hc6 rfl (i := 0) rfl
      clear r0 c0 c1 c2 d0 d1 d2 f0 hr5 hc6
      simp [results, Try.f42, go_sem, hc5]
    · exact (HB2.out.trans (HB1.out.mono HB2.out.size)).setCell HGE.out _
  | true =>
    cases ru with
    | false =>
      gi_wp2_with (first | (refine ⟨trivial, ?_⟩; gi_at_call 97; (with_reducible refine (callsIn_wide.2 (HCT.out _ HB2.out)).mono ?_); clear c0 c1 c2 d0 d1 d2 r0 f0; rintro e w1 ⟨rfl, hb1⟩; obtain ⟨c0, c1, c2, d0, d1, d2, r0, f0⟩ := HCELL.out w1 hb1; have HB1 := Lib.hid hb1; clear hb1) | (refine ⟨trivial, ?_⟩; gi_at_call 97; (with_reducible refine (callsIn_wide.2 (HCU.out _ (HB2.out.trans (HB1.out.mono HB2.out.size)))).mono ?_); clear c0 c1 c2 d0 d1 d2 r0 f0; rintro e w3 ⟨rfl, hb3⟩; have hb4 := HB1.out.trans (hb3.mono HB1.out.size); obtain ⟨c0, c1, c2, d0, d1, d2, r0, f0⟩ := HCELL.out w3 hb4; have HB4 := Lib.hid hb4; clear hb3 hb4))
      refine ⟨.bool false, ?_, rfl, ?_⟩
      · have hr5 := (HB4.out.block _ HLT.out).trans HX2.out
        have hc6 := Boxed.set (.bool false) hr5
        have hc5 := cell_box hc6 rfl (i := 0) rfl
        clear r0 c0 c1 c2 d0 d1 d2 f0 hr5 hc6
        simp [results, Try.f42, go_sem, hc5]
      · exact (HB2.out.trans (HB4.out.mono HB2.out.size)).setCell HGE.out _
    | true =>
      gi_wp2_with (first | (refine ⟨trivial, ?_⟩; gi_at_call 97; (with_reducible refine (callsIn_wide.2 (HCT.out _ HB2.out)).mono ?_); clear c0 c1 c2 d0 d1 d2 r0 f0; rintro e w1 ⟨rfl, hb1⟩; obtain ⟨c0, c1, c2, d0, d1, d2, r0, f0⟩ := HCELL.out w1 hb1; have HB1 := Lib.hid hb1; clear hb1) | (refine ⟨trivial, ?_⟩; gi_at_call 97; (with_reducible refine (callsIn_wide.2 (HCU.out _ (HB2.out.trans (HB1.out.mono HB2.out.size)))).mono ?_); clear c0 c1 c2 d0 d1 d2 r0 f0; rintro e w3 ⟨rfl, hb3⟩; have hb4 := HB1.out.trans (hb3.mono HB1.out.size); have hz2 : w.heap.size + 1 + 1 < w3.heap.size := Nat.lt_of_lt_of_le HLT.out hb4.size; have hz1 : w.heap.size + 1 < w3.heap.size := Nat.lt_of_succ_lt hz2; have hz0 : w.heap.size < w3.heap.size := Nat.lt_of_succ_lt hz1; obtain ⟨c0, c1, c2, d0, d1, d2, r0, f0⟩ := HCELL.out w3 hb4; have HB4 := Lib.hid hb4; clear hb3 hb4) | (refine ⟨trivial, ?_⟩; gi_at_call 98; refine (callsIn_wide.2 (HBO.out _ _ _ _ _ _ _)).mono ?_; rintro e w' ⟨rfl, rfl⟩))
      obtain ⟨W4, hW4⟩ : ∃ W4, [Obj.cells #[.int .i64 k0, .int .i64 n0, .slice a m0 cap] 26, .cells #[.int .i64 k9, .int .i64 n9, .slice b m9 cap'] 26, .cells #[.slice (some ⟨w3.heap.size, 0, none⟩) 1 1] 24, .cells #[.slice (some ⟨w3.heap.size + 1, 0, none⟩) 1 1] 24].foldl World.alloc w3 = W4 := ⟨_, rfl⟩
      rw [show (((w3.alloc (.cells #[.int .i64 k0, .int .i64 n0, .slice a m0 cap] 26)).alloc (.cells #[.int .i64 k9, .int .i64 n9, .slice b m9 cap'] 26)).alloc (.cells #[.slice (some ⟨w3.heap.size, 0, none⟩) 1 1] 24)).alloc (.cells #[.slice (some ⟨w3.heap.size + 1, 0, none⟩) 1 1] 24) = W4 from hW4]
      have hs4 : W4.heap.size = w3.heap.size + 4 := by rw [← hW4]; exact bl_size _ _
      have hb34 : Below w3.heap.size w3 W4 := by rw [← hW4]; exact bl_below _ _ (Nat.le_refl _)
      have hy0 : W4.heap[w3.heap.size]? = some (.cells #[.int .i64 k0, .int .i64 n0, .slice a m0 cap] 26) := by rw [← hW4]; exact bl_get _ w3 0 _ rfl
      have hy1 : W4.heap[w3.heap.size + 1]? = some (.cells #[.int .i64 k9, .int .i64 n9, .slice b m9 cap'] 26) := by rw [← hW4]; exact bl_get _ w3 1 _ rfl
      have hy2 : W4.heap[w3.heap.size + 1 + 1]? = some (.cells #[.slice (some ⟨w3.heap.size, 0, none⟩) 1 1] 24) := by rw [← hW4]; exact bl_get _ w3 2 _ rfl
      have hy3 : W4.heap[w3.heap.size + 1 + 1 + 1]? = some (.cells #[.slice (some ⟨w3.heap.size + 1, 0, none⟩) 1 1] 24) := by rw [← hW4]; exact bl_get _ w3 3 _ rfl
      have hbw4 : Below w.heap.size w W4 := (HB2.out.trans (HB4.out.mono HB2.out.size)).trans (hb34.mono (Nat.le_of_lt hz0))
      have hr4 : W4.heap[w.heap.size + 1 + 1]? = some (.cells #[.bool false] 4) := (hb34.block _ hz2).trans ((HB4.out.block _ HLT.out).trans HX2.out)
      have hLw : ∀ k, LT w.heap.size k → LT W4.heap.size k := fun k h => Nat.lt_of_lt_of_le h hbw4.size
      have htn : NodeAt (LT W4.heap.size) W4 t w3.heap.size 0 := NodeAt.mk' (HTY.out.below hbw4 (fun _ h => h) hLw) (by rw [HK0.out]; exact cell_box hy0 rfl rfl) (by rw [HN0.out]; exact cell_box hy0 rfl rfl) (by rw [HM0.out]; exact cell_box hy0 rfl rfl)
      have hun : NodeAt (LT W4.heap.size) W4 u (w3.heap.size + 1) 0 := NodeAt.mk' (HTU.out.below hbw4 (fun _ h => h) hLw) (by rw [HK9.out]; exact cell_box hy1 rfl rfl) (by rw [HN9.out]; exact cell_box hy1 rfl rfl) (by rw [HM9.out]; exact cell_box hy1 rfl rfl)
      have hwf : (⟨t, u, [], [], w3.heap.size, 0, 1, w3.heap.size + 1, 0, 1⟩ : En).wf := ⟨rfl, Nat.le_refl _, by show 1 ≤ maxLen; unfold maxLen; omega, Nat.le_refl _, by show 1 ≤ maxLen; unfold maxLen; omega⟩
      have hen : EnL W4.heap.size W4 ⟨t, u, [], [], w3.heap.size, 0, 1, w3.heap.size + 1, 0, 1⟩ :=
        ⟨hwf, by simp only [KidsAt]; exact ⟨_, _, rfl, by show w3.heap.size < _; omega, htn, trivial⟩, by simp only [KidsAt]; exact ⟨_, _, rfl, by show w3.heap.size + 1 < _; omega, hun, trivial⟩, by simp [Tp.rights, HRT.out], by simp [Tp.rights, HRU.out], by simp only [Tp.sizes]; omega, by simp only [Tp.sizes]; omega⟩
      have hag : Tp.agree t u = Tp.agz (enTodo [⟨t, u, [], [], w3.heap.size, 0, 1, w3.heap.size + 1, 0, 1⟩]) := by simp [enTodo, Tp.agz]
      have HEN := Lib.hid hen; have HAG := Lib.hid hag; have HBW4 := Lib.hid hbw4; have HR4 := Lib.hid hr4; have HS4 := Lib.hid hs4; have HZ2 := Lib.hid hz2
      clear hen hag hbw4 hr4 hLw htn hun hb34 hW4 c0 c1 c2 d0 d1 d2 r0 f0 hz0 hz1 hz2
      refine wpIn_range_st (gf := 128) (lb := #[.pointer (some ⟨w3.heap.size + 1 + 1, 0, none⟩), .pointer (some ⟨w3.heap.size + 1 + 1 + 1, 0, none⟩)]) rfl (enters_of Try.func128 (by kernel_rfl) rfl)
        (both_seq ⟨t, u, [], [], w3.heap.size, 0, 1, w3.heap.size + 1, 0, 1⟩ hwf (by simp only [enSz, List.map_cons, List.map_nil, Tp.sizes, List.sum_cons, List.sum_nil]; omega) (fun _ => True) (w3.heap.size + 1 + 1) (w3.heap.size + 1 + 1 + 1) W4 hy2 hy3)
        (fun s x A B s' h hg => hg.moved h) (Below.refl _ _) (fun _ _ => trivial) (fun _ => rfl)
        (fun _ s V => Below W4.heap.size W4 V ∧ ((∀ d ∈ s, EnL W4.heap.size W4 d) ∧ Tp.agree t u = Tp.agz (enTodo s)))
        (fun c M _ V => (V.heap[w.heap.size + 1 + 1]? = some (.cells #[.bool false] 4) ∧ ¬ M (w.heap.size + 1 + 1)) ∧ (Below w.heap.size w V ∧ (c = .ret ∧ Tp.agree t u = false)))
        (fun x a' _ _ => a' = { tmps := #[.agg #[.int .i64 k0, .int .i64 n0, .slice a m0 cap], .agg #[.int .i64 k9, .int .i64 n9, .slice b m9 cap'], .pointer (some ⟨w.heap.size, 0, none⟩), .pointer (some ⟨w.heap.size + 1, 0, none⟩), .pointer (some ⟨w.heap.size + 1 + 1, 0, none⟩), .pointer x.px, .pointer x.py, .agg #[.int .i64 k0, .int .i64 n0, .slice a m0 cap], .int .i64 0, .bool false, .bool false, .agg #[.int .i64 k9, .int .i64 n9, .slice b m9 cap'], .int .i64 0, .bool false, .bool false, .agg #[.int .i64 k0, .int .i64 n0, .slice a m0 cap], .slice (some ⟨w3.heap.size, 0, none⟩) 1 1, .agg #[.int .i64 k9, .int .i64 n9, .slice b m9 cap'], .slice (some ⟨w3.heap.size + 1, 0, none⟩) 1 1, .func (.func 128) #[] #[.pointer (some ⟨w3.heap.size + 1 + 1, 0, none⟩), .pointer (some ⟨w3.heap.size + 1 + 1 + 1, 0, none⟩)], .pointer x.px, .pointer x.py, undef, undef, undef, undef, undef, undef, undef, undef], defers := [] })
        (fun s => Ab.and (Ab.below (Nat.le_refl _) W4 (Nat.le_refl _)) (Ab.pure _ _)) (fun _ _ => Ab.and (Ab.block _ _ _) (Ab.and (Ab.below HBW4.out.size w (Nat.le_refl _)) (Ab.pure _ _))) (fun _ _ => Ab.pure _ _)
        ⟨Below.refl _ _, fun d hd => List.mem_singleton.1 hd ▸ HEN.out, HAG.out⟩ ?rd ?assign ?body ?done ?stop
      case rd =>
        rintro M s V ⟨hbl, hen, _⟩ _ _ e r rfl
        obtain ⟨h1, h2, h3, h4⟩ := (hen e (by simp)).heads
        obtain ⟨_, _, _, q1, _⟩ := h1.ty
        obtain ⟨_, _, _, q2, _⟩ := h2.ty
        exact ⟨(hbl.cell (p := ⟨e.xb, e.xo, none⟩) h3).trans q1, (hbl.cell (p := ⟨e.yb, e.yo, none⟩) h4).trans q2⟩
      case assign =>
        intro l M s x V K hi hM hle hok hK
        clear hi hok hy0 hy1 hy2 hy3 hs4
        gi_wp2
        exact hK _ _ (Turns.refl _ _) (by simp [enEnc])
      case body =>
        rintro l M s x a' V ⟨hbl, hen, hag⟩ hM hle ⟨r, rfl⟩ rfl
        have hx := hen x (by simp)
        obtain ⟨h1, h2, h3, h4⟩ := hx.heads
        obtain ⟨xa, xc, hxt, x0, x1, x2⟩ := h1.ty
        obtain ⟨ya, yc, hyt, y0, y1, y2⟩ := h2.ty
        have v0 : V.drew.cell? ⟨x.xb, x.xo, none⟩ = _ := (hbl.cell (p := ⟨x.xb, x.xo, none⟩) h3).trans x0
        have v1 : V.drew.cell? ⟨x.xb, x.xo + 1, none⟩ = _ := (hbl.cell (p := ⟨x.xb, x.xo + 1, none⟩) h3).trans x1
        have v2 : V.drew.cell? ⟨x.xb, x.xo + 2, none⟩ = _ := (hbl.cell (p := ⟨x.xb, x.xo + 2, none⟩) h3).trans x2
        have v3 : V.drew.cell? ⟨x.yb, x.yo, none⟩ = _ := (hbl.cell (p := ⟨x.yb, x.yo, none⟩) h4).trans y0
        have v4 : V.drew.cell? ⟨x.yb, x.yo + 1, none⟩ = _ := (hbl.cell (p := ⟨x.yb, x.yo + 1, none⟩) h4).trans y1
        have v5 : V.drew.cell? ⟨x.yb, x.yo + 2, none⟩ = _ := (hbl.cell (p := ⟨x.yb, x.yo + 2, none⟩) h4).trans y2
        have hsx : Tp.size x.x ≤ 10000 := by have := hx.xz; simp only [Tp.sizes] at this; omega
        have hsy : Tp.size x.y ≤ 10000 := by have := hx.yz; simp only [Tp.sizes] at this; omega
        have hlt4 : ∀ k, LT W4.heap.size k → LT V.heap.size k := fun k h => Nat.lt_of_lt_of_le h hbl.size
        have hfit := fit_any x.x xa xc x.y ya yc V.drew hsx hsy (hxt.below hbl.drew (fun _ h => h) hlt4) (hyt.below hbl.drew (fun _ h => h) hlt4)
        obtain ⟨bf, hbf⟩ : ∃ f, Tp.fit x.x x.y = f := ⟨_, rfl⟩
        obtain ⟨kx, hkx⟩ : ∃ y, x.x.kind = y := ⟨_, rfl⟩
        obtain ⟨nx, hnx⟩ : ∃ y, x.x.num = y := ⟨_, rfl⟩
        obtain ⟨mx, hmx⟩ : ∃ y, x.x.kids.length = y := ⟨_, rfl⟩
        obtain ⟨ky, hky⟩ : ∃ y, x.y.kind = y := ⟨_, rfl⟩
        obtain ⟨ny, hny⟩ : ∃ y, x.y.num = y := ⟨_, rfl⟩
        obtain ⟨my, hmy⟩ : ∃ y, x.y.kids.length = y := ⟨_, rfl⟩
        obtain ⟨xb, hxb⟩ : ∃ y, x.xb = y := ⟨_, rfl⟩
        obtain ⟨xo, hxo⟩ : ∃ y, x.xo = y := ⟨_, rfl⟩
        obtain ⟨yb, hyb⟩ : ∃ y, x.yb = y := ⟨_, rfl⟩
        obtain ⟨yo, hyo⟩ : ∃ y, x.yo = y := ⟨_, rfl⟩
        unfold tv at hfit
        rw [hkx, hnx, hmx, hky, hny, hmy, hbf] at hfit
        rw [hxb, hxo] at v0 v1 v2
        rw [hyb, hyo] at v3 v4 v5
        rw [hkx] at v0; rw [hnx] at v1; rw [hmx] at v2; rw [hky] at v3; rw [hny] at v4; rw [hmy] at v5
        simp only [En.px, En.py, hxb, hxo, hyb, hyo]
        have hrr : V.heap[w.heap.size + 1 + 1]? = some (.cells #[.bool false] 4) := (hbl.block _ (by have := HZ2.out; omega)).trans HR4.out
        have hrM : ¬ M (w.heap.size + 1 + 1) := fun h => by have := (hM _ h).1; have := HZ2.out; omega
        have hwb : Below w.heap.size w V := HBW4.out.trans (hbl.mono HBW4.out.size)
        have HFIT := Lib.hid hfit; have HBF := Lib.hid hbf; have HX := Lib.hid hx; have HENS := Lib.hid hen; have HAGS := Lib.hid hag; have HBL := Lib.hid hbl; have HRR := Lib.hid hrr; have HRM := Lib.hid hrM; have HWB := Lib.hid hwb
        clear hfit hbf hx hen hag hbl hrr hrM hwb hkx hnx hmx hky hny hmy hxb hxo hyb hyo hsx hsy hlt4 hxt hyt h1 h2 h3 h4 x0 x1 x2 y0 y1 y2 hy0 hy1 hy2 hy3 hs4 hM hle
        gi_upto_region 6 with fail
        gi_cut [29] from 22 (fun v w' => v = .bool (!bf) ∧ Below V.heap.size V w')
        case first =>
          refine wpIn_region_seqR [(0, false), (0, false), (0, false), (0, false), (0, false), (0, false), (0, true), (0, false)] (by kernel_rfl) (by kernel_rfl) (by kernel_rfl) (fun _ _ _ d _ h => by cases d <;> exact h) (by kernel_rfl) (by rintro ⟨_, _, h⟩; exact h) ?_
          repeat
            first
            | (first | with_reducible refine sp0 (fun K hK => ?_) | with_reducible refine sp1 (fun K hK => ?_) | with_reducible refine sp2 (fun K hK => ?_) | with_reducible refine sp3 (fun K hK => ?_) | with_reducible refine sp4 (fun K hK => ?_)
               go_simp
               first
               | (with_reducible refine hK _ _ ?_; clear hK K)
               | (with_reducible apply Exists.intro
                  refine ⟨fun x hx => ?_, hK _ _ ?_⟩
                  first
                    | (with_reducible exact rfl)
                    | (have y0 := keepc hx v0; have y1 := keepc hx v1; have y2 := keepc hx v2; have y3 := keepc hx v3; have y4 := keepc hx v4; have y5 := keepc hx v5; go_simp; done)
                    | (have y0 := keepc hx v0; have y1 := keepc hx v1; have y2 := keepc hx v2; have y3 := keepc hx v3; have y4 := keepc hx v4; have y5 := keepc hx v5; go_simp; with_reducible exact rfl)
                  clear hK K))
            | (first | with_reducible refine sk0 ?_ (fun K hK => ?_) | with_reducible refine sk1 ?_ (fun K hK => ?_) | with_reducible refine sk2 ?_ (fun K hK => ?_) | with_reducible refine sk3 ?_ (fun K hK => ?_) | with_reducible refine sk4 ?_ (fun K hK => ?_)
               rfl
               go_simp
               with_reducible refine hK _ _ ?_
               clear hK K)
          first | with_reducible refine sc0 (fun K hK => ?_) | with_reducible refine sc1 (fun K hK => ?_) | with_reducible refine sc2 (fun K hK => ?_) | with_reducible refine sc3 (fun K hK => ?_) | with_reducible refine sc4 (fun K hK => ?_)
          go_simp
          refine (HFIT.out).mono ?_
          clear v0 v1 v2 v3 v4 v5
          rintro e w5 ⟨rfl, hb5⟩
          have HB5 := Lib.hid (show Below V.heap.size V w5 from ⟨hb5.os, hb5.tape, hb5.output, hb5.size, hb5.block⟩)
          refine ⟨hb5, hK _ _ ?_⟩
          clear hK K
          clear hb5
          repeat
            first
            | (first | with_reducible refine sp0 (fun K hK => ?_) | with_reducible refine sp1 (fun K hK => ?_) | with_reducible refine sp2 (fun K hK => ?_) | with_reducible refine sp3 (fun K hK => ?_) | with_reducible refine sp4 (fun K hK => ?_)
               go_simp
               first
               | (with_reducible refine hK _ _ ?_; clear hK K)
               | (with_reducible apply Exists.intro
                  refine ⟨fun x hx => ?_, hK _ _ ?_⟩
                  first
                    | (with_reducible exact rfl)
                  clear hK K))
            | (first | with_reducible refine sk0 ?_ (fun K hK => ?_) | with_reducible refine sk1 ?_ (fun K hK => ?_) | with_reducible refine sk2 ?_ (fun K hK => ?_) | with_reducible refine sk3 ?_ (fun K hK => ?_) | with_reducible refine sk4 ?_ (fun K hK => ?_)
               rfl
               go_simp
               with_reducible refine hK _ _ ?_
               clear hK K)
          with_reducible refine seq_nil ?_
          gi_wp2
          gi_meet
          case rel => exact ⟨rfl, HB5.out⟩
        case rest =>
          obtain ⟨rfl, hb5⟩ := hcut
          clear v0 v1 v2 v3 v4 v5
          have hT5 := (Turns.of_below hb5)
          have hb45 := HBL.out.trans (hb5.mono HBL.out.size)
          have hlV : w.heap.size + 1 + 1 < V.heap.size := (Array.getElem?_eq_some_iff.1 HRR.out).1
          have hr5 := (hb5.block _ hlV).trans HRR.out
          have hbw5 := HWB.out.trans (hb5.mono HWB.out.size)
          have HR5 := Lib.hid hr5; have HB45 := Lib.hid hb45; have HT5 := Lib.hid hT5; have HBW5 := Lib.hid hbw5
          cases bf with
          | true =>
            obtain ⟨s', q1, q2, q3⟩ := agree_go HX.out hb45 HBF.out (fun d hd => HENS.out d (List.mem_cons_of_mem _ hd))
            have HQ := Lib.hid (show Turns (fun k => True ∧ ¬ M k) V wc ∧ ∃ s', enGo (x :: r) x wc s' ∧ (Below W4.heap.size W4 wc ∧ ((∀ d ∈ s', EnL W4.heap.size W4 d) ∧ Tp.agree t u = Tp.agz (enTodo s'))) from ⟨hT5.mono (fun _ _ h => h.elim), s', q1, hb45, q2, HAGS.out.trans q3.symm⟩)
            clear q1 q2 q3 hr5 hb45 hT5 hbw5 hb5 hlV
            gi_wp2
            exact HQ.out
          | false =>
            have r5 : wc.cell? ⟨w.heap.size + 1 + 1, 0, none⟩ = some (.bool false) := cell_box hr5 rfl rfl
            have f5 : wc.frozen? ⟨w.heap.size + 1 + 1, 0, none⟩ = false := Boxed.frozen hr5
            have hbad : Tp.agree t u = false := by rw [HAGS.out, entodo_cons, Tp.agree_node, HBF.out]; rfl
            have HBAD := Lib.hid hbad
            clear hbad hr5 hb45 hT5 hbw5 hb5 hlV
            gi_wp2
            exact ⟨(HT5.out.mono (fun _ _ h => h.elim)).trans (Turns.setCell _ _ _ ⟨trivial, HRM.out⟩), ⟨Boxed.set _ HR5.out, HRM.out⟩, HBW5.out.setCell HGE.out _, rfl, HBAD.out⟩
      case done =>
        rintro D M s V hD hMD hM rfl ⟨hbl, hen, hag⟩ hK
        have hag1 : Tp.agree t u = true := by rw [hag]; rfl
        have hrr : V.heap[w.heap.size + 1 + 1]? = some (.cells #[.bool false] 4) := (hbl.block _ (by have := HZ2.out; omega)).trans HR4.out
        have cr : V.cell? ⟨w.heap.size + 1 + 1, 0, none⟩ = some (.bool false) := cell_box hrr rfl rfl
        have fr : V.frozen? ⟨w.heap.size + 1 + 1, 0, none⟩ = false := Boxed.frozen hrr
        have hne : w.heap.size + 1 + 1 ≠ D := by have := HZ2.out; omega
        have hK' : (V.setCell ⟨w.heap.size + 1 + 1, 0, none⟩ (.bool true)).heap[D]? = some (.deferred (some [])) := (Below.heap_setCell _ _ _ D (fun e => hne e.symm)).trans hK
        have hr' : ((V.setCell ⟨w.heap.size + 1 + 1, 0, none⟩ (.bool true)).putObj D (.deferred none)).heap[w.heap.size + 1 + 1]? = some (.cells #[.bool true] 4) := (World.putObj_heap_other hne).trans (Boxed.set _ hrr)
        have hwb : Below w.heap.size w V := HBW4.out.trans (hbl.mono HBW4.out.size)
        have hDw : w.heap.size ≤ D := Nat.le_trans HBW4.out.size hD
        have HR' := Lib.hid hr'; have HBL := Lib.hid hwb; have HWO := Lib.hid hag1; have HDW := Lib.hid hDw
        clear hy0 hy1 hy2 hy3 hrr hr' hbl hen hag hag1 hwb hDw hs4 hM hMD hD
        gi_wp2
        refine ⟨by simp, .inl ⟨_, _, rfl, run_takeDeferred hK', ?_⟩⟩
        have hr5 := HR'.out
        have hc5 := cell_box hr5 rfl (i := 0) rfl
        refine ⟨.bool true, ?_, by rw [HWO.out]; rfl, ?_⟩
        · clear hr5 cr fr
          simp [results, Try.f42, go_sem, hc5]
        · exact ((Turns.setCell (M := fun k => w.heap.size ≤ k) V ⟨w.heap.size + 1 + 1, 0, none⟩ _ HGE.out).trans (Turns.putObj _ D _ HDW.out)).below HBL.out (fun _ h => h) HBL.out.size
      case stop =>
        rintro D M c s V hD hMD hM ⟨⟨hrr, hrM⟩, hbl, rfl, hbad⟩ hK
        have hne : w.heap.size + 1 + 1 ≠ D := by have := HZ2.out; omega
        have hr' : (V.putObj D (.deferred none)).heap[w.heap.size + 1 + 1]? = some (.cells #[.bool false] 4) := (World.putObj_heap_other hne).trans hrr
        have hDw : w.heap.size ≤ D := Nat.le_trans HBW4.out.size hD
        have HR' := Lib.hid hr'; have HBL := Lib.hid hbl; have HWO := Lib.hid hbad; have HDW := Lib.hid hDw
        clear hy0 hy1 hy2 hy3 hrr hr' hbl hbad hDw hs4 hM hMD hD
        gi_wp2
        refine ⟨by simp, .inl ⟨_, _, rfl, run_takeDeferred hK, ?_⟩⟩
        have hr5 := HR'.out
        have hc5 := cell_box hr5 rfl (i := 0) rfl
        refine ⟨.bool false, ?_, by rw [HWO.out]; rfl, ?_⟩
        · clear hr5
          simp [results, Try.f42, go_sem, hc5]
        · exact (Turns.putObj (M := fun k => w.heap.size ≤ k) _ D _ HDW.out).below HBL.out (fun _ h => h) HBL.out.size
end Go.Proofs.Yteolbbgnkbcfmaa
