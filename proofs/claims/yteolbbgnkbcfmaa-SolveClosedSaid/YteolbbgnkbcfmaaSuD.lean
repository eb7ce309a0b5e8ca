/- store.Within and store.Static. -/
import Derived.Test.YteolbbgnkbcfmaaStL
namespace Go.Proofs.Yteolbbgnkbcfmaa
open Go Go.RowKit Go.Shelf
open Tp (T)
open Sg (Of Rt Den Dens Alk Mkd trav travs rootOf kidsOf)
attribute [local go_sem] Oper.semAt_some
section
variable {B s g cap : Nat} {L C K : Int} {w : World} {H : List SNd}
/-- What Within hands back. -/
def WnP (B s g cap : Nat) (L C K : Int) (H : List SNd) (b : Bool) (w : World) (e : Ending) (w' : World) : Prop := e = .returned (.bool b) ∧ ∃ H', SV B s g cap L C (K + 1) w' H' ∧ Alk H H' ∧ (∀ d ∈ H', d.c.met ≤ K + 1) ∧ Kp w.heap.size (fun k => k = s ∨ k = g) w w'
set_option maxRecDepth 100000 in
set_option maxHeartbeats 4000000 in
theorem within12_any (h : SV B s g cap L C K w H) (hm : ∀ d ∈ H, d.c.met ≤ K) (hK : 0 ≤ K ∧ K < 4611686018427387904) {v : Nat} {dv : SNd} (hv : H[v]? = some dv) {t : T} {p : Nat} (hD : Den H t p) :
    Calls Try.prog 18 #[.pointer (some ⟨s, 0, none⟩), .int .i64 (v : Int), .int .i64 (p : Int)] w (WnP B s g cap L C K H (decide (dv.up ∈ trav H t p [])) w) := by
  have hpl : p < H.length := by obtain ⟨d, _, hd, _⟩ := hD.open; exact (List.getElem?_eq_some_iff.1 hd).1
  have hvl := (List.getElem?_eq_some_iff.1 hv).1
  obtain ⟨W2, hW2⟩ : ∃ W, (w.alloc (.cells #[.bool false] 4)).alloc (.cells #[.int .i64 (v : Int), .int .i64 (p : Int)] 3) = W := ⟨_, rfl⟩
  have hb2 : Below w.heap.size w W2 := by rw [← hW2]; exact ((Below.refl _ _).alloc (Nat.le_refl _) _).alloc (by simp) _
  have hx0 : W2.heap[w.heap.size]? = some (.cells #[.bool false] 4) := by rw [← hW2]; exact box1 _ _ _ _ _
  have hx1 : W2.heap[w.heap.size + 1]? = some (.cells #[.int .i64 (v : Int), .int .i64 (p : Int)] 3) := by rw [← hW2]; exact box2 _ _ _ _ _
  have hs2 : W2.heap.size = w.heap.size + 2 := by rw [← hW2]; simp
  have h2 := h.below hb2
  have hhv := have12_any h2 [(v : Int), (p : Int)] (some ⟨w.heap.size + 1, 0, none⟩) 2 (by unfold maxLen; simp) (fun i hi => by
    have h2 : i < 2 := by simpa using hi
    match i, h2 with
    | 0, _ => exact ⟨_, _, rfl, cell_box hx1 rfl rfl⟩
    | 1, _ => exact ⟨_, _, rfl, cell_box hx1 rfl rfl⟩)
  rw [show [(v : Int), (p : Int)].all (okN H.length) = true from by unfold okN; simp; omega] at hhv
  have hrt := root12_any h2 hv
  obtain ⟨q, hq⟩ : ∃ q, dv.up = q := ⟨_, rfl⟩
  rw [hq] at hrt ⊢
  have hf := h.far
  have HHV := Lib.hid hhv; have HRT := Lib.hid hrt; have HW2 := Lib.hid hW2; have HB2 := Lib.hid hb2; have HX0 := Lib.hid hx0; have HS2 := Lib.hid hs2; have HSV := Lib.hid h2; have HM := Lib.hid hm; have HK := Lib.hid hK; have HD := Lib.hid hD; have HF := Lib.hid hf
  clear h hhv hrt hW2 hb2 hx0 hx1 hs2 h2 hm hK hD hpl hvl hf hq hv
  refine callsIn_wide (n := 9) |>.1 ?_
  refine callsIn_of_wp_marks Try.func18 rfl trivial ?_ rfl
  simp only [Try.ntmps18, List.size_toArray, List.length_cons, List.length_nil, Nat.reduceAdd, Nat.reduceSub, Array.replicate_succ, Array.replicate_zero, List.push_toArray, List.append_toArray, List.nil_append, List.cons_append]
  gi_upto_region 1 with fail
  gi_wp2
  rw [HW2.out]
  refine ⟨trivial, ?_⟩
  refine (callsIn_wide.2 HHV.out).mono ?_
  rintro e w2 ⟨rfl, rfl⟩
  gi_upto_region 3 with fail
  gi_wp2
  refine ⟨trivial, ?_⟩
  refine (callsIn_wide.2 HRT.out).mono ?_
  clear HRT HHV HW2
  rintro e w3 ⟨rfl, hsv, hk⟩
  have hy0 := hk.heap HX0.out (by rw [HS2.out]; omega) (by have := HF.out; omega)
  have hfar := hsv.far
  have hk3 : Kp w.heap.size (fun k => k = s ∨ k = g) w w3 := (Kp.of_below HB2.out).trans (hk.mono HB2.out.size (fun _ _ h => .inr h))
  have hs3 : w.heap.size + 2 ≤ w3.heap.size := by have := hk.size; rw [HS2.out] at this; exact this
  have HSV3 := Lib.hid hsv; have HY0 := Lib.hid hy0; have HK3 := Lib.hid hk3; have HS3 := Lib.hid hs3
  clear hsv hy0 hk3 hs3 hk hfar
  obtain ⟨W4, hW4⟩ : ∃ W, w3.alloc (.cells #[.int .i64 (q : Int)] 3) = W := ⟨_, rfl⟩
  have hb4 : Below w3.heap.size w3 W4 := by rw [← hW4]; exact (Below.refl _ _).alloc (Nat.le_refl _) _
  have hz4 : W4.heap.size = w3.heap.size + 1 := by rw [← hW4]; simp
  have hy4 : W4.heap[w3.heap.size]? = some (.cells #[.int .i64 (q : Int)] 3) := by rw [← hW4]; exact World.alloc_heap_new w3 _
  have HB4 := Lib.hid hb4; have HZ4 := Lib.hid hz4; have HY4 := Lib.hid hy4; have HW4 := Lib.hid hW4
  clear hb4 hz4 hy4 hW4
  gi_wp2_with (refine ⟨trivial, ?_⟩; gi_at_call 74; rw [HW4.out]; refine (callsIn_wide.2 (roots12_any s p _)).mono ?_; rintro e w' ⟨rfl, rfl⟩)
  obtain ⟨W5, hW5⟩ : ∃ W, (W4.alloc (.cells #[.pointer (some ⟨s, 0, none⟩)] 30)).alloc (.cells #[.int .i64 (p : Int)] 3) = W := ⟨_, rfl⟩
  have hb5 : Below W4.heap.size W4 W5 := by rw [← hW5]; exact ((Below.refl _ _).alloc (Nat.le_refl _) _).alloc (by simp) _
  have hs5 : W5.heap.size = w3.heap.size + 3 := by rw [← hW5]; simp [HZ4.out]
  have hy0 : W5.heap[W4.heap.size]? = some (.cells #[.pointer (some ⟨s, 0, none⟩)] 30) := by rw [← hW5]; exact box1 _ _ _ _ _
  have hy1 : W5.heap[W4.heap.size + 1]? = some (.cells #[.int .i64 (p : Int)] 3) := by rw [← hW5]; exact box2 _ _ _ _ _
  have hx5 : W5.heap[w3.heap.size]? = some (.cells #[.int .i64 (q : Int)] 3) := (hb5.block _ (by rw [HZ4.out]; omega)).trans HY4.out
  have hz5 : W5.heap[w.heap.size]? = some (.cells #[.bool false] 4) := (hb5.block _ (by have := HS3.out; rw [HZ4.out]; omega)).trans ((HB4.out.block _ (by have := HS3.out; omega)).trans HY0.out)
  have hkw : Kp w.heap.size (fun k => k = s ∨ k = g) w W5 := HK3.out.trans (.of_below ((HB4.out.tr hb5 (by have := HZ4.out; omega)).mono HK3.out.size))
  have hsv5 : SV B s g cap L C K W5 H := (HSV3.out.below HB4.out).below hb5
  rw [hW5]
  have hseq := roots_seq (B := B) (s := s) (g := g) (cap := cap) (L := L) (C := C) (K := K) H t p HD.out HK.out W4.heap.size (W4.heap.size + 1) W5 hy0 hy1 HM.out
  have HS5 := Lib.hid hs5; have HKW := Lib.hid hkw; have HSV5 := Lib.hid hsv5
  clear hW5 hb5 hs5 hy0 hy1 hkw hsv5
  refine wpIn_range_sto (a₁ := fun r => { tmps := #[.pointer (some ⟨s, 0, none⟩), .int .i64 (v : Int), .int .i64 (p : Int), undef, undef, undef, .pointer (some ⟨w.heap.size, 0, none⟩), .pointer (some ⟨w3.heap.size, 0, none⟩), .int .i64 (r : Int), .pointer (some ⟨s, 0, none⟩), .int .i64 (v : Int), .int .i64 (p : Int), .slice (some ⟨w.heap.size + 1, 0, none⟩) 2 2, .bool true, .bool false, .pointer (some ⟨s, 0, none⟩), .int .i64 (v : Int), .int .i64 (q : Int), .pointer (some ⟨s, 0, none⟩), .int .i64 (p : Int),
      .func (.func 117) #[] #[.pointer (some ⟨W4.heap.size, 0, none⟩), .pointer (some ⟨W4.heap.size + 1, 0, none⟩)], .int .i64 (r : Int), undef, undef, undef], defers := [] })
    (w0 := W5) (w := W5) rfl (enters_of Try.func117 (by kernel_rfl) rfl) hseq (Below.refl _ _) ?mine (fun m A D h hk => StS.same m A D h hk) rfl
    (fun Y V => V.heap[w.heap.size]? = some (.cells #[.bool false] 4) ∧ V.heap[w3.heap.size]? = some (.cells #[.int .i64 (q : Int)] 3) ∧ ¬ q ∈ Y ∧ Kp w.heap.size (fun k => k = s ∨ k = g) w V)
    (fun c _ V => c = .ret ∧ V.heap[w.heap.size]? = some (.cells #[.bool true] 4) ∧ q ∈ trav H t p [] ∧ Kp w.heap.size (fun k => k = s ∨ k = g) w V)
    ?inv ?invx ⟨hz5, hx5, by simp, HKW.out⟩ ⟨HSV5.out, Alk.refl _, HM.out⟩ ?assign ?body ?done ?stop
  case mine => rintro k (rfl | rfl) <;> (have := HF.out; have := HS5.out; have := HS3.out; omega)
  case inv =>
    rintro Y A D ⟨h1, h2, h3, h4⟩ hT
    have := HF.out; have := HS5.out; have := HS3.out
    exact ⟨hT.heap h1 (by omega), hT.heap h2 (by omega), h3, ⟨hT.os.trans h4.os, hT.tape.trans h4.tape, hT.output.trans h4.output, Nat.le_trans h4.size hT.size, fun i hi hm => (hT.block i (by have := h4.size; omega) (fun h => h.elim hm (by omega))).trans (h4.block i hi hm)⟩⟩
  case invx =>
    rintro c Y A D ⟨h0, h1, h3, h4⟩ hT
    have := HF.out; have := HS5.out; have := HS3.out
    exact ⟨h0, hT.heap h1 (by omega), h3, ⟨hT.os.trans h4.os, hT.tape.trans h4.tape, hT.output.trans h4.output, Nat.le_trans h4.size hT.size, fun i hi hm => (hT.block i (by have := h4.size; omega) (fun h => h.elim hm (by omega))).trans (h4.block i hi hm)⟩⟩
  case assign =>
    intro l r W K hK
    gi_wp2
    exact hK
  case body =>
    rintro l Y r ⟨m1, Hm⟩ V ⟨h1, h2, h3, h4⟩ ⟨hsv, hal, hmm⟩ ⟨⟨d, u, hd, hdu, hdd, _, hyn, _, Z, hZ⟩, hm1⟩ hlt
    have hin : r ∈ trav H t p [] := by rw [hZ]; simp
    dsimp only at hsv hal hmm hm1
    subst hm1
    have e5 : V.cell? ⟨w3.heap.size, 0, none⟩ = some (.int .i64 (q : Int)) := cell_box h2 rfl rfl
    have e6 : V.cell? ⟨w.heap.size, 0, none⟩ = some (.bool false) := cell_box h1 rfl rfl
    have f6 : V.frozen? ⟨w.heap.size, 0, none⟩ = false := IsC.frozen ⟨_, _, h1⟩
    have HSVV := Lib.hid hsv; have HAL := Lib.hid hal; have HMM := Lib.hid hmm; have H1 := Lib.hid h1; have H2 := Lib.hid h2; have H3 := Lib.hid h3; have H4 := Lib.hid h4; have HLT := Lib.hid hlt; have HIN := Lib.hid hin
    clear hsv hal hmm h1 h2 h3 h4 hlt hin hyn hd hdu hdd hZ
    by_cases hrq : r = q
    · subst hrq
      have hb : ((r : Int) == (r : Int)) = true := by simp
      gi_wp2
      have hf := HF.out; have hs5 := HS5.out; have hs3 := HS3.out
      exact ⟨⟨Below.heap_setCell _ _ _ _ (by dsimp only; omega), Below.heap_setCell _ _ _ _ (by dsimp only; omega)⟩, ⟨rfl, box_set H1.out, HIN.out, H4.out.setCell (.inl (Nat.le_refl _)) _⟩, HSVV.out.same (Below.heap_setCell _ _ _ s (by dsimp only; omega)) (Below.heap_setCell _ _ _ g (by dsimp only; omega)), HAL.out, HMM.out⟩
    · have hb : ((r : Int) == (q : Int)) = false := by simp; omega
      gi_wp2
      exact ⟨⟨rfl, rfl⟩, ⟨H1.out, H2.out, by rw [List.mem_append, List.mem_singleton]; rintro (h | h); exact H3.out h; exact hrq h.symm, H4.out⟩, HSVV.out, HAL.out, HMM.out⟩
  case done =>
    rintro Y ⟨m1, Hm⟩ V rfl hm1 ⟨hsv, hal, hmm⟩ ⟨h1, h2, h3, h4⟩ hlt hK
    dsimp only at hsv hal hmm hm1
    subst hm1
    have e6 : V.cell? ⟨w.heap.size, 0, none⟩ = some (.bool false) := cell_box h1 rfl rfl
    have f6 : V.frozen? ⟨w.heap.size, 0, none⟩ = false := IsC.frozen ⟨_, _, h1⟩
    have HSVV := Lib.hid hsv; have HAL := Lib.hid hal; have HMM := Lib.hid hmm; have H1 := Lib.hid h1; have H3 := Lib.hid h3; have H4 := Lib.hid h4; have HKK := Lib.hid hK
    clear hsv hal hmm h1 h2 h3 h4 hK
    gi_wp2
    have hf := HF.out; have hs5 := HS5.out; have hs3 := HS3.out
    obtain ⟨F, hFF⟩ : ∃ x, V.setCell ⟨w.heap.size, 0, none⟩ (.bool false) = x := ⟨_, rfl⟩
    have hK2 : F.heap[W5.heap.size]? = some (.deferred (some [])) := by rw [← hFF]; exact (Below.heap_setCell _ _ _ _ (by dsimp only; omega)).trans HKK.out
    have g1 : F.heap[w.heap.size]? = some (.cells #[.bool false] 4) := by rw [← hFF]; exact box_set H1.out
    have g4 : Kp w.heap.size (fun k => k = s ∨ k = g) w F := by rw [← hFF]; exact H4.out.setCell (.inl (Nat.le_refl _)) _
    have gsv : SV B s g cap L C (K + 1) F Hm := by rw [← hFF]; exact HSVV.out.same (Below.heap_setCell _ _ _ s (by dsimp only; omega)) (Below.heap_setCell _ _ _ g (by dsimp only; omega))
    rw [hFF]
    obtain ⟨F', hF'⟩ : ∃ x, F.putObj W5.heap.size (.deferred none) = x := ⟨_, rfl⟩
    have far : ∀ k, k ≠ W5.heap.size → F'.heap[k]? = F.heap[k]? := fun k hk => by rw [← hF']; exact World.putObj_heap_other hk
    have r0 : F'.cell? ⟨w.heap.size, 0, none⟩ = some (.bool false) := cell_box ((far w.heap.size (by omega)).trans g1) rfl rfl
    refine ⟨by simp, .inl ⟨_, _, rfl, run_takeDeferred hK2, ?_⟩⟩
    rw [hF']
    refine ⟨.bool false, by simp [results, Try.f18, go_sem, r0], by rw [decide_eq_false H3.out], Hm, gsv.same (far s (by omega)) (far g (by omega)), HAL.out, HMM.out, ⟨by rw [← hF']; exact g4.os, by rw [← hF']; exact g4.tape, by rw [← hF']; exact g4.output, by rw [← hF', World.putObj_size]; exact g4.size, fun k hk hm => (far k (by omega)).trans (g4.block k hk hm)⟩⟩
  case stop =>
    rintro c Y ⟨m1, Hm⟩ V hm1 ⟨hsv, hal, hmm⟩ ⟨rfl, h1, h3, h4⟩ hlt hK
    dsimp only at hsv hal hmm hm1
    subst hm1
    gi_wp2
    have hf := HF.out; have hs5 := HS5.out; have hs3 := HS3.out
    obtain ⟨F', hF'⟩ : ∃ x, V.putObj W5.heap.size (.deferred none) = x := ⟨_, rfl⟩
    have far : ∀ k, k ≠ W5.heap.size → F'.heap[k]? = V.heap[k]? := fun k hk => by rw [← hF']; exact World.putObj_heap_other hk
    have r0 : F'.cell? ⟨w.heap.size, 0, none⟩ = some (.bool true) := cell_box ((far w.heap.size (by omega)).trans h1) rfl rfl
    refine ⟨by simp, .inl ⟨_, _, rfl, run_takeDeferred hK, ?_⟩⟩
    rw [hF']
    refine ⟨.bool true, by simp [results, Try.f18, go_sem, r0], by rw [decide_eq_true h3], Hm, hsv.same (far s (by omega)) (far g (by omega)), hal, hmm, ⟨by rw [← hF']; exact h4.os, by rw [← hF']; exact h4.tape, by rw [← hF']; exact h4.output, by rw [← hF', World.putObj_size]; exact h4.size, fun k hk hm => (far k (by omega)).trans (h4.block k hk hm)⟩⟩
set_option maxRecDepth 100000 in
theorem static12_any (h : SV B s g cap L C K w H) (hm : ∀ d ∈ H, d.c.met ≤ K) (hK : 0 ≤ K ∧ K < 4611686018427387904) {dv : SNd} (hv : H[4]? = some dv) {t : T} {p : Nat} (hD : Den H t p) :
    Calls Try.prog 71 #[.pointer (some ⟨s, 0, none⟩), .int .i64 (p : Int)] w (WnP B s g cap L C K H (!decide (dv.up ∈ trav H t p [])) w) := by
  have hpl : p < H.length := by obtain ⟨d, _, hd, _⟩ := hD.open; exact (List.getElem?_eq_some_iff.1 hd).1
  obtain ⟨W2, hW2⟩ : ∃ W, w.alloc (.cells #[.int .i64 (p : Int)] 3) = W := ⟨_, rfl⟩
  have hb2 : Below w.heap.size w W2 := by rw [← hW2]; exact (Below.refl _ _).alloc (Nat.le_refl _) _
  have hx1 : W2.heap[w.heap.size]? = some (.cells #[.int .i64 (p : Int)] 3) := by rw [← hW2]; exact World.alloc_heap_new w _
  have h2 := h.below hb2
  have hhv := have12_any h2 [(p : Int)] (some ⟨w.heap.size, 0, none⟩) 1 (by unfold maxLen; simp) (fun i hi => by
    obtain rfl : i = 0 := by simp at hi; omega
    exact ⟨_, _, rfl, cell_box hx1 rfl rfl⟩)
  rw [okN_nat hpl] at hhv
  have hwn := within12_any h2 hm hK hv hD
  obtain ⟨b, hb⟩ : ∃ b, decide (dv.up ∈ trav H t p []) = b := ⟨_, rfl⟩
  rw [hb] at hwn ⊢
  have HHV := Lib.hid hhv; have HWN := Lib.hid hwn; have HW2 := Lib.hid hW2; have HB2 := Lib.hid hb2
  clear h hhv hwn hW2 hb2 hx1 h2 hm hK hD hpl hv hb
  go_enter Try.func71, Try.ntmps71
  go_upto_region 0 with fail
  go_wp2_with fail
  rw [HW2.out]
  refine HHV.out.mono ?_
  rintro e w2 ⟨rfl, rfl⟩
  go_wp2_with fail
  refine (leaf12_any 5 _).mono ?_
  rintro e wx ⟨rfl, hw⟩
  rw [hw, show wrap64 (5 - 1) = 4 from by unfold wrap64; omega]
  clear hw wx
  go_wp2_with fail
  refine HWN.out.mono ?_
  rintro e w3 ⟨rfl, H', q1, q2, q3, q4⟩
  have Q := Lib.hid (And.intro q1 (And.intro q2 (And.intro q3 q4)))
  clear q1 q2 q3 q4
  go_wp2_with fail
  go_ret
  exact ⟨rfl, H', Q.out.1, Q.out.2.1, Q.out.2.2.1, (Kp.of_below HB2.out).trans (Q.out.2.2.2.mono HB2.out.size (fun _ _ h => h))⟩
set_option maxRecDepth 100000 in
/-- A link of what is no variable. -/
theorem link12_arg (h : SV B s g cap L C K w H) {p q : Nat} {dp rp : SNd} (hp : H[p]? = some dp) (hrp : H[dp.up]? = some rp) (hql : q < H.length) (h6 : rp.c.kind ≠ 6) :
    Calls Try.prog 54 #[.pointer (some ⟨s, 0, none⟩), .int .i64 (p : Int), .int .i64 (q : Int)] w fun e w' => e = .returned (.int .i64 1) ∧ SV B s g cap L C K w' H ∧ Kp w.heap.size (fun k => k = g) w w' := by
  obtain ⟨W1, hW1⟩ : ∃ W, w.alloc (.cells #[.int .i64 (p : Int), .int .i64 (q : Int)] 3) = W := ⟨_, rfl⟩
  have hb1 : Below w.heap.size w W1 := by rw [← hW1]; exact (Below.refl _ _).alloc (Nat.le_refl _) _
  have hx1 : W1.heap[w.heap.size]? = some (.cells #[.int .i64 (p : Int), .int .i64 (q : Int)] 3) := by rw [← hW1]; exact World.alloc_heap_new w _
  have hpl := (List.getElem?_eq_some_iff.1 hp).1
  have h1 := h.below hb1
  have hhv := have12_any h1 [(p : Int), (q : Int)] (some ⟨w.heap.size, 0, none⟩) 2 (by unfold maxLen; simp) (fun i hi => by
    have h2 : i < 2 := by simpa using hi
    match i, h2 with
    | 0, _ => exact ⟨_, _, rfl, cell_box hx1 rfl rfl⟩
    | 1, _ => exact ⟨_, _, rfl, cell_box hx1 rfl rfl⟩)
  rw [show [(p : Int), (q : Int)].all (okN H.length) = true from by unfold okN; simp; omega] at hhv
  have hkd := kind12_any h1 hp hrp
  obtain ⟨kk, hkk⟩ : ∃ k, rp.c.kind = k := ⟨_, rfl⟩
  rw [hkk] at hkd h6
  have h6b : (kk != 6) = true := by simp [h6]
  have HHV := Lib.hid hhv; have HW1 := Lib.hid hW1; have HB1 := Lib.hid hb1; have HKD := Lib.hid hkd
  clear hhv hW1 hb1 hx1 h1 hkd hkk hp hrp hpl hql h h6
  go_enter Try.func54, Try.ntmps54
  go_upto_region 1 with fail
  go_wp2_with fail
  rw [HW1.out]
  refine HHV.out.mono ?_
  rintro e w2 ⟨rfl, rfl⟩
  go_wp2_with fail
  refine HKD.out.mono ?_
  rintro e w3 ⟨rfl, hsv, hk⟩
  have HSV3 := Lib.hid hsv; have HK3 := Lib.hid ((Kp.of_below (M := fun z => z = g) HB1.out).trans ((hk.mono HB1.out.size (fun _ _ h => h))))
  clear hsv hk
  go_wp2_with fail
  go_ret
  exact ⟨rfl, HSV3.out, HK3.out⟩
end
end Go.Proofs.Yteolbbgnkbcfmaa
