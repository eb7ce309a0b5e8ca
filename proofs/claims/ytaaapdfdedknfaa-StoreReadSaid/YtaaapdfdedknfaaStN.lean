/- store.Vars: the variables within a node. -/
import Derived.Test.YtaaapdfdedknfaaStM
namespace Go.Proofs.Ytaaapdfdedknfaa
open Go Go.RowKit Go.Shelf
open Tp (T)
open Sg (Of Rt Den Dens Alk Mkd trav travs rootOf kidsOf)
attribute [local go_sem] Oper.semAt_some
/-- Is a root a variable? -/
def isV (H : List SNd) (r : Nat) : Bool := match H[r]? with | some d => decide (d.c.kind = 6) | none => false
def varsOf (H : List SNd) (Y : List Nat) : List Nat := Y.filter (isV H)
def natRow (l : List Nat) : List Value := l.map fun (n : Nat) => Value.int .i64 ((n : Nat) : Int)
theorem info_int : (Try.prog.info? 3).map (fun i => (i.zero, i.size, i.bytes)) = some (some (.int .i64 0), 1, 8) := by kernel_rfl
theorem own_baseN {B B' sz n : Nat} {e : TypeId} {w : World} {v : Value} {xs : List Value} (h : w.ownsRow B e sz v n xs) (hB : B' ≤ B) : w.ownsRow B' e sz v n xs := ⟨h.1, h.2.imp id fun ⟨g, cap, cur, h1, h2, h3⟩ => ⟨g, cap, cur, h1, Nat.le_trans hB h2, h3⟩⟩
theorem natRow_len (l : List Nat) : (natRow l).length = l.length * 1 := by simp [natRow]
theorem varsOf_snoc (H : List SNd) (Y : List Nat) (r : Nat) : varsOf H (Y ++ [r]) = if isV H r then varsOf H Y ++ [r] else varsOf H Y := by
  unfold varsOf; rw [List.filter_append]; cases h : isV H r <;> simp [h]
theorem b8n {r : Nat} (h : r ≤ 4000000) : (r + 1) * 8 ≤ 140737488355328 ∧ r + 1 ≤ maxLen := by unfold maxLen; omega
section
variable {B s g cap : Nat} {L C K : Int} {w : World} {H : List SNd}
/-- What Vars hands back. -/
def VaP (B s g cap : Nat) (L C K : Int) (H : List SNd) (vs : List Nat) (w : World) (e : Ending) (w' : World) : Prop := ∃ v H', e = .returned v ∧ w'.ownsRow w.heap.size 3 1 v vs.length (natRow vs) ∧ SV B s g cap L C (K + 1) w' H' ∧ Alk H H' ∧ (∀ d ∈ H', d.c.met ≤ K + 1) ∧ Kp w.heap.size (fun k => k = s ∨ k = g) w w'
set_option maxRecDepth 100000 in
set_option maxHeartbeats 4000000 in
theorem vars12_any (h : SV B s g cap L C K w H) (hm : ∀ d ∈ H, d.c.met ≤ K) (hK : 0 ≤ K ∧ K < 4611686018427387904) {t : T} {p : Nat} (hD : Den H t p) (hsz : Tp.size t ≤ 1000000) :
    Calls Try.prog 34 #[.pointer (some ⟨s, 0, none⟩), .int .i64 (p : Int)] w (VaP B s g cap L C K H (varsOf H (trav H t p [])) w) := by
  have hpl : p < H.length := by obtain ⟨d, _, hd, _⟩ := hD.open; exact (List.getElem?_eq_some_iff.1 hd).1
  obtain ⟨W2, hW2⟩ : ∃ W, (w.alloc (.cells #[.pointer (some ⟨s, 0, none⟩)] 30)).alloc (.cells #[.int .i64 (p : Int)] 3) = W := ⟨_, rfl⟩
  have hb2 : Below w.heap.size w W2 := by rw [← hW2]; exact ((Below.refl _ _).alloc (Nat.le_refl _) _).alloc (by simp) _
  have hx0 : W2.heap[w.heap.size]? = some (.cells #[.pointer (some ⟨s, 0, none⟩)] 30) := by rw [← hW2]; exact box1 _ _ _ _ _
  have hx1 : W2.heap[w.heap.size + 1]? = some (.cells #[.int .i64 (p : Int)] 3) := by rw [← hW2]; exact box2 _ _ _ _ _
  have hs2 : W2.heap.size = w.heap.size + 2 := by rw [← hW2]; simp
  have h2 := h.below hb2
  have hia : IntsAt W2 [(p : Int)] (some ⟨w.heap.size + 1, 0, none⟩) := fun i hi => by
    obtain rfl : i = 0 := by simp at hi; omega
    exact ⟨_, _, rfl, cell_box hx1 rfl rfl⟩
  have hhv := have12_any h2 [(p : Int)] (some ⟨w.heap.size + 1, 0, none⟩) 1 (by unfold maxLen; simp) hia
  rw [okN_nat hpl] at hhv
  have d0 : W2.cell? ⟨w.heap.size, 0, none⟩ = some (.pointer (some ⟨s, 0, none⟩)) := cell_box hx0 rfl rfl
  have c0 : (w.alloc (.cells #[.pointer (some ⟨s, 0, none⟩)] 30)).cell? ⟨w.heap.size, 0, none⟩ = some (.pointer (some ⟨s, 0, none⟩)) := cell_box (World.alloc_heap_new w _) rfl rfl
  have HHV := Lib.hid hhv; have HW2 := Lib.hid hW2; have HB2 := Lib.hid hb2; have HX0 := Lib.hid hx0; have HS2 := Lib.hid hs2; have HSV := Lib.hid h2; have HM := Lib.hid hm; have HK := Lib.hid hK; have HD := Lib.hid hD; have HSZ := Lib.hid hsz; have HF := Lib.hid h.far
  clear h hhv hW2 hb2 hx0 hx1 hs2 h2 hia hm hK hD hsz hpl
  refine callsIn_wide (n := 9) |>.1 ?_
  refine callsIn_of_wp_marks Try.func34 rfl trivial ?_ rfl
  simp only [Try.ntmps34, List.size_toArray, List.length_cons, List.length_nil, Nat.reduceAdd, Nat.reduceSub, Array.replicate_succ, Array.replicate_zero, List.push_toArray, List.append_toArray, List.nil_append, List.cons_append]
  gi_upto_region 1 with fail
  gi_wp2
  rw [HW2.out]
  refine ⟨trivial, ?_⟩
  refine (callsIn_wide.2 HHV.out).mono ?_
  rintro e w2 ⟨rfl, rfl⟩
  obtain ⟨W3, hW3⟩ : ∃ W, w2.alloc (.cells #[.slice none 0 0] 27) = W := ⟨_, rfl⟩
  have hb3 : Below w2.heap.size w2 W3 := by rw [← hW3]; exact (Below.refl _ _).alloc (Nat.le_refl _) _
  have d3 : W3.cell? ⟨w.heap.size, 0, none⟩ = some (.pointer (some ⟨s, 0, none⟩)) := cell_box ((hb3.block _ (by rw [HS2.out]; omega)).trans HX0.out) rfl rfl
  have hx3 : W3.heap[w2.heap.size]? = some (.cells #[.slice none 0 0] 27) := by rw [← hW3]; exact World.alloc_heap_new w2 _
  have hs3 : W3.heap.size = w.heap.size + 3 := by rw [← hW3, World.size_alloc, HS2.out]
  have HB3 := Lib.hid hb3; have HX3 := Lib.hid hx3; have HS3 := Lib.hid hs3; have HW3 := Lib.hid hW3
  clear hb3 hx3 hs3 hW3
  clear c0
  gi_upto_region 4 with fail
  rw [HW3.out]
  clear d0
  gi_wp2_with (refine ⟨trivial, ?_⟩; gi_at_call 80; refine (callsIn_wide.2 (roots12_any s p _)).mono ?_; rintro e w' ⟨rfl, rfl⟩)
  obtain ⟨W5, hW5⟩ : ∃ W, (W3.alloc (.cells #[.pointer (some ⟨s, 0, none⟩)] 30)).alloc (.cells #[.int .i64 (p : Int)] 3) = W := ⟨_, rfl⟩
  have hb5 : Below W3.heap.size W3 W5 := by rw [← hW5]; exact ((Below.refl _ _).alloc (Nat.le_refl _) _).alloc (by simp) _
  have hs5 : W5.heap.size = w.heap.size + 5 := by rw [← hW5]; simp [HS3.out]
  have hy0 : W5.heap[W3.heap.size]? = some (.cells #[.pointer (some ⟨s, 0, none⟩)] 30) := by rw [← hW5]; exact box1 _ _ _ _ _
  have hy1 : W5.heap[W3.heap.size + 1]? = some (.cells #[.int .i64 (p : Int)] 3) := by rw [← hW5]; exact box2 _ _ _ _ _
  have hx5 : W5.heap[w2.heap.size]? = some (.cells #[.slice none 0 0] 27) := (hb5.block _ (by rw [HS2.out, HS3.out]; omega)).trans HX3.out
  have hz5 : W5.heap[w.heap.size]? = some (.cells #[.pointer (some ⟨s, 0, none⟩)] 30) := (hb5.block _ (by rw [HS3.out]; omega)).trans ((HB3.out.block _ (by rw [HS2.out]; omega)).trans HX0.out)
  have hbw : Below w.heap.size w W5 := (HB2.out.tr HB3.out (Nat.le_refl _)).tr hb5 (Nat.le_refl _)
  have hsv5 : SV B s g cap L C K W5 H := (HSV.out.below HB3.out).below hb5
  rw [hW5]
  have hseq := roots_seq (B := B) (s := s) (g := g) (cap := cap) (L := L) (C := C) (K := K) H t p HD.out HK.out W3.heap.size (W3.heap.size + 1) W5 hy0 hy1 HM.out
  have HS5 := Lib.hid hs5; have HBW := Lib.hid hbw; have HSV5 := Lib.hid hsv5
  clear hW5 hb5 hs5 hy0 hy1 hbw hsv5 d3 HHV
  refine wpIn_range_sto (a₁ := fun r => { tmps := #[.pointer (some ⟨s, 0, none⟩), .int .i64 (p : Int), .pointer (some ⟨w.heap.size, 0, none⟩), undef, .slice none 0 0, .pointer (some ⟨w2.heap.size, 0, none⟩), .int .i64 (r : Int), .pointer (some ⟨s, 0, none⟩), .int .i64 (p : Int), .slice (some ⟨w.heap.size + 1, 0, none⟩) 1 1, .bool true, .bool false, .pointer (some ⟨s, 0, none⟩), .int .i64 (p : Int),
      .func (.func 122) #[] #[.pointer (some ⟨W3.heap.size, 0, none⟩), .pointer (some ⟨W3.heap.size + 1, 0, none⟩)], .int .i64 (r : Int), undef, undef, undef, undef, undef, undef, undef, undef, undef, undef, undef, undef, undef, undef], defers := [] })
    (w0 := W5) (w := W5) rfl (enters_of Try.func122 (by kernel_rfl) rfl) hseq (Below.refl _ _) ?mine (fun m A D h hk => StS.same m A D h hk) rfl
    (fun Y V => ∃ v, V.heap[w2.heap.size]? = some (.cells #[v] 27) ∧ V.ownsRow (W5.heap.size + 2) 3 1 v (varsOf H Y).length (natRow (varsOf H Y)) ∧ Kp w.heap.size (fun k => k = s ∨ k = g) w V ∧ V.heap[w.heap.size]? = some (.cells #[.pointer (some ⟨s, 0, none⟩)] 30))
    (fun _ _ _ => False) ?inv (fun _ _ _ _ h _ => h) ⟨_, hx5, World.ownsRow_nil _ _ _ _, .of_below HBW.out, hz5⟩ ⟨HSV5.out, Alk.refl _, HM.out⟩ ?assign ?body ?done ?stop
  case mine => rintro k (rfl | rfl) <;> (have := HF.out; have := HS5.out; omega)
  case inv =>
    rintro Y A D ⟨v, h1, h2, h3, h4⟩ hT
    have := HF.out; have := HS5.out; have := HS2.out
    refine ⟨v, hT.heap h1 (by omega), own_same h2 (fun z hz => hT.block z (h2.lt z hz).2 (by have := (h2.lt z hz).1; omega)), ⟨hT.os.trans h3.os, hT.tape.trans h3.tape, hT.output.trans h3.output, Nat.le_trans h3.size hT.size, fun i hi hm => (hT.block i (by have := h3.size; omega) (fun h => h.elim hm (by omega))).trans (h3.block i hi hm)⟩, hT.heap h4 (by omega)⟩
  case assign =>
    intro l r W K hK
    gi_wp2
    exact hK
  case body =>
    rintro l Y r ⟨m1, Hm⟩ V ⟨v, h1, h2, h3, h4⟩ ⟨hsv, hal, hmm⟩ ⟨⟨d, u, hd, hdu, hdd, _, hyn, _⟩, hm1⟩ hlt
    dsimp only at hsv hal hmm hm1
    subst hm1
    obtain ⟨e, he, heu, hek, _⟩ := hal.get hd
    have hrl := (List.getElem?_eq_some_iff.1 he).1
    obtain ⟨q0, q1⟩ := pt_int hrl
    obtain ⟨c0, c1, c2, c3⟩ := hsv.sbox
    have ck := (hsv.node he).1
    have e0 : V.cell? ⟨w.heap.size, 0, none⟩ = some (.pointer (some ⟨s, 0, none⟩)) := cell_box h4 rfl rfl
    have e5 : V.cell? ⟨w2.heap.size, 0, none⟩ = some v := cell_box h1 rfl rfl
    have f5 : V.frozen? ⟨w2.heap.size, 0, none⟩ = false := IsC.frozen ⟨_, _, h1⟩
    have hiv : isV H r = decide (d.c.kind = 6) := by unfold isV; rw [hd]
    obtain ⟨kk, hkk⟩ : ∃ k, e.c.kind = k := ⟨_, rfl⟩
    rw [hkk] at ck
    rw [← hek, hkk] at hiv
    have HSVV := Lib.hid hsv; have HAL := Lib.hid hal; have HMM := Lib.hid hmm; have H1 := Lib.hid h1; have H2 := Lib.hid h2; have H3 := Lib.hid h3; have H4 := Lib.hid h4; have HLT := Lib.hid hlt; have HIV := Lib.hid hiv; have HYN := Lib.hid hyn
    clear hsv hal hmm h1 h2 h3 h4 hlt hiv hyn hd hdu hdd hek hkk heu he
    by_cases h6 : kk = 6
    · subst h6
      obtain ⟨av, cv, rfl⟩ := own_shapeN H2.out
      obtain ⟨N, hN⟩ : ∃ n, (varsOf H Y).length = n := ⟨_, rfl⟩
      have hNb : N ≤ 4000000 := by have h1 := List.length_filter_le (isV H) Y; have h2 : (varsOf H Y).length ≤ Y.length := h1; have := HYN.out; have := HSZ.out; omega
      obtain ⟨b1, b2⟩ := b8n hNb
      obtain ⟨i0, hi, hz0, hz1, hz2⟩ := info_parts info_int
      have h2 := H2.out
      rw [hN] at h2 e5
      have HOW := Lib.hid h2; have HNN := Lib.hid hN; have B1 := Lib.hid b1; have B2 := Lib.hid b2
      have HBS := Lib.hid (show W5.heap.size + 2 ≤ V.heap.size by have := HLT.out; omega)
      clear h2 hN b1 b2 hNb
      gi_wp2_with (gi_at_builtin; refine wpListIn_append_lies _ rfl (.tmp 25) (.tmp 27) 27 rfl (W5.heap.size + 2) 3 i0 (.int .i64 0) 1 8 Try.underlying27 hi hz0 hz1 hz2 rfl (by decide) (.slice av N cv) N (natRow (varsOf H Y)) rfl (HOW.out.alloc _) ⟨V.heap.size, 0, none⟩ 1 1 [.int .i64 (r : Int)] rfl rfl (World.news_of_block (World.alloc_heap_new V _)) (by simp [Value.oneCell']) (by decide) B2.out B1.out (Nat.le_trans HBS.out (by simp)) ?_; intro g1 cap1 w7 hown1 hgr1 hly1; (have e7 : w7.heap[w2.heap.size]? = some (.cells #[.slice av N cv] 27) := (hgr1.block w2.heap.size (by rw [World.size_alloc]; have := (Array.getElem?_eq_some_iff.1 H1.out).1; omega) (fun e => by have := (HOW.out.lt _ e.symm).1; have := HS5.out; have := HS2.out; omega)).trans ((Below.heap_alloc _ _ _ (Array.getElem?_eq_some_iff.1 H1.out).1).trans (by have := H1.out; rw [HNN.out] at this; exact this))); (have e75 : w7.cell? ⟨w2.heap.size, 0, none⟩ = some (.slice av N cv) := cell_box e7 rfl rfl); (have f75 : w7.frozen? ⟨w2.heap.size, 0, none⟩ = false := IsC.frozen ⟨_, _, e7⟩); (have HE7 := Lib.hid e7); (have HOW1 := Lib.hid hown1); (have HGR1 := Lib.hid hgr1); clear e7 hown1 hgr1 hly1)
      have hkp : Kp w.heap.size (fun k => k = s ∨ k = g) w (w7.setCell ⟨w2.heap.size, 0, none⟩ (.slice (some ⟨g1, 0, none⟩) (N + 1) cap1)) :=
        ((H3.out.alloc H3.out.size _).grown HGR1.out (Nat.le_trans H3.out.size (by simp)) (fun z hz => .inl (by have := (HOW.out.lt z hz).1; have := HS5.out; omega))).setCell (.inl (by have := HS2.out; dsimp only; omega)) _
      have far : ∀ z, z < V.heap.size → z ≠ w2.heap.size → z < W5.heap.size + 2 → (w7.setCell ⟨w2.heap.size, 0, none⟩ (.slice (some ⟨g1, 0, none⟩) (N + 1) cap1)).heap[z]? = V.heap[z]? := fun z hz hne hlt2 =>
        (Below.heap_setCell _ _ _ z hne).trans ((HGR1.out.block z (by rw [World.size_alloc]; omega) (fun e => by have := (HOW.out.lt z e.symm).1; omega)).trans (Below.heap_alloc _ _ _ hz))
      have hw5 := HS5.out; have hw2 := HS2.out; have hlt := HLT.out; have hf := HF.out
      have hsv8 : SV B s g cap L C (K + 1) (w7.setCell ⟨w2.heap.size, 0, none⟩ (.slice (some ⟨g1, 0, none⟩) (N + 1) cap1)) Hm := HSVV.out.same (far s (by omega) (by omega) (by omega)) (far g (by omega) (by omega) (by omega))
      refine ⟨⟨far _ (by omega) (by omega) (by omega), far _ (by omega) (by omega) (by omega)⟩, ⟨_, box_set HE7.out, ?_, hkp, (far _ (by omega) (by omega) (by omega)).trans H4.out⟩, hsv8, HAL.out, HMM.out⟩
      have hr9 : varsOf H (Y ++ [r]) = varsOf H Y ++ [r] := by rw [varsOf_snoc, HIV.out]; simp
      rw [hr9, List.length_append, HNN.out]
      have : natRow (varsOf H Y ++ [r]) = natRow (varsOf H Y) ++ [.int .i64 (r : Int)] := by simp [natRow]
      rw [this]
      exact own_same HOW1.out (fun z hz => Below.heap_setCell _ _ _ z (fun (e : z = w2.heap.size) => by have := (HOW1.out.lt z hz).1; omega))
    · have h6b : (kk == 6) = false := by simp [h6]
      gi_wp2
      exact ⟨⟨rfl, rfl⟩, ⟨v, H1.out, by rw [varsOf_snoc, HIV.out]; simpa [h6] using H2.out, H3.out, H4.out⟩, HSVV.out, HAL.out, HMM.out⟩
  case done =>
    rintro Y ⟨m1, Hm⟩ V rfl hm1 ⟨hsv, hal, hmm⟩ ⟨v, h1, h2, h3, h4⟩ hlt hK
    dsimp only at hsv hal hmm hm1
    subst hm1
    have e5 : V.cell? ⟨w2.heap.size, 0, none⟩ = some v := cell_box h1 rfl rfl
    have HSVV := Lib.hid hsv; have HAL := Lib.hid hal; have HMM := Lib.hid hmm; have H2 := Lib.hid h2; have H3 := Lib.hid h3
    clear hsv hal hmm h1 h2 h3 h4
    gi_wp2
    refine ⟨by simp, .inl ⟨_, _, rfl, run_takeDeferred hK, ?_⟩⟩
    have hw5 := HS5.out; have hw2 := HS2.out; have hf := HF.out
    have far : ∀ z, z ≠ W5.heap.size → (V.putObj W5.heap.size (.deferred none)).heap[z]? = V.heap[z]? := fun z hz => World.putObj_heap_other hz
    refine ⟨_, results_tmp rfl _ _ _, v, Hm, rfl, ?_, HSVV.out.same (far s (by omega)) (far g (by omega)), HAL.out, HMM.out, ?_⟩
    · exact own_baseN (own_same H2.out (fun z hz => far z (by have := (H2.out.lt z hz).1; omega))) (by omega)
    · exact ⟨H3.out.os, H3.out.tape, H3.out.output, by rw [World.putObj_size]; exact H3.out.size, fun i hi hm => (far i (by omega)).trans (H3.out.block i hi hm)⟩
  case stop =>
    intro c Y m V _ _ h _ _
    exact h.elim
end
end Go.Proofs.Ytaaapdfdedknfaa
