/- The laws' Made: a type is made in a store. -/
import Derived.Test.YteolbbgnkbcfmaaStW
namespace Go.Proofs.Yteolbbgnkbcfmaa
open Go Go.RowKit
open Tp (T)
open Sg (Of Rt Den Dens Alk Mkd trav travs rootOf kidsOf)
attribute [local go_sem] Oper.semAt_some
/-- What Made hands back. -/
def MdP (B s g mb : Nat) (L C K lev : Int) (H : List SNd) (M : IMap) (nm : Nat) (t : T) (w : World) (e : Ending) (w' : World) : Prop :=
  ∃ (g' cap' p nm' : Nat) (C' : Int) (H' : List SNd) (M' : IMap), e = .returned (.tuple #[.int .i64 (p : Int), .int .i64 0]) ∧ SV B s g' cap' L C' K w' H' ∧ (C ≤ C' ∧ C' ≤ C + (Tp.size t : Int)) ∧ Bds L C' H' ∧ IMAt w' mb nm' M' ∧ nm' ≤ nm + Tp.size t ∧ Grow lev H M H' M' ∧ Im H' M' t p ∧ Kp w.heap.size (fun k => k = s ∨ k = g ∨ k = mb) w w' ∧ (g' = g ∨ w.heap.size ≤ g') ∧ nm' + vcnt H = nm + vcnt H' ∧ (∀ k p, M' k = some p → M k = some p ∨ occ t k)
theorem Im.lt {H : List SNd} {M : IMap} {t : T} {p : Nat} (h : Im H M t p) : p < H.length := by
  cases t with
  | mk k n l => obtain ⟨d, h1, _⟩ := h; exact (List.getElem?_eq_some_iff.1 h1).1
theorem last12 (H : List SNd) (d : SNd) : (H ++ [d])[H.length]? = some d := by rw [List.getElem?_append_right (Nat.le_refl _), Nat.sub_self]; rfl
theorem Bds.more {L C : Int} {H : List SNd} (h : Bds L C H) (hC : C < L) (d : SNd) : Bds L (C + 1) (H ++ [d]) := ⟨by have := h.c0; omega, by omega, h.l, by have := h.n; rw [List.length_append, List.length_singleton]; omega⟩
theorem two_tail {a b : Nat} {H : List SNd} (ha : a < H.length) (hb : b < H.length) : ([(a : Int), (b : Int)].all (okN H.length)) = true := by unfold okN; simp; omega
theorem one_tail {a : Nat} {H : List SNd} (ha : a < H.length) : ([(a : Int)].all (okN H.length)) = true := by unfold okN; simp; omega
set_option maxRecDepth 100000 in
set_option maxHeartbeats 8000000 in
theorem made12_any (A B s mb : Nat) (L K lev : Int) (hlev : 0 ≤ lev) (hAB : A ≤ B) (hAm : A ≤ mb) (hms : mb ≠ s) : ∀ (n : Nat) (t : T) (g cap nm : Nat) (C : Int) (H : List SNd) (M : IMap) (a : Option Addr) (c : Nat) (w : World), Tp.size t ≤ n → Tp.right t = true → SV B s g cap L C K w H → Bds L C H → C + (Tp.size t : Int) ≤ L → IMAt w mb nm M → nm + Tp.size t ≤ 2000000 → MapOk H M → LvOk H → TyAt (LT A) w t a c → mb ≠ g →
    Calls Try.prog 21 #[.pointer (some ⟨s, 0, none⟩), tv t a c, .int .i64 lev, .map (some mb)] w (MdP B s g mb L C K lev H M nm t w) := by
  intro n
  induction n with
  | zero => intro t g cap nm C H M a c w h; have := Tp.size_pos t; omega
  | succ n ih =>
    intro t g cap nm C H M a c w hsz hrt hsv hbd hCL hmp hnm hok hlv hty hmg
    have IH := Lib.hid ih; clear ih
    cases t with
    | mk kk un l =>
    rw [right_kids, Bool.and_eq_true] at hrt
    obtain ⟨hnr, hrs⟩ := hrt
    obtain ⟨m, hm⟩ : ∃ m, l.length = m := ⟨_, rfl⟩
    dsimp only [Tp.T.kind, Tp.T.num, Tp.T.kids] at hnr
    rw [hm] at hnr
    have hkd := (right_iff kk un m).1 hnr
    obtain ⟨hik, hiu, hsl⟩ := hty
    dsimp only [Tp.T.kind, Tp.T.num, Tp.T.kids] at hik hiu hsl hrs
    obtain ⟨W1, hW1⟩ : ∃ W, w.alloc (.cells #[.int .i64 kk, .int .i64 un, .slice a m c] 26) = W := ⟨_, rfl⟩
    have hb1 : Below w.heap.size w W1 := by rw [← hW1]; exact (Below.refl _ _).alloc (Nat.le_refl _) _
    have hbx : W1.heap[w.heap.size]? = some (.cells #[.int .i64 kk, .int .i64 un, .slice a m c] 26) := by rw [← hW1]; exact World.alloc_heap_new _ _
    have hs1 : W1.heap.size = w.heap.size + 1 := by rw [← hW1]; simp
    have hsf := hsv.far
    have hAs := hsv.lo
    have hsv1 := hsv.below hb1
    have hmp1 : IMAt W1 mb nm M := hmp.same (hb1.block _ hmp.lt)
    have hml := hmp.lt
    have f0 : W1.cell? ⟨w.heap.size, 0, none⟩ = some (.int .i64 kk) := cell_box hbx rfl rfl
    have f1 : W1.cell? ⟨w.heap.size, 1, none⟩ = some (.int .i64 un) := cell_box hbx rfl rfl
    have f2 : W1.cell? ⟨w.heap.size, 2, none⟩ = some (.slice a m c) := cell_box hbx rfl rfl
    have HLL := Lib.hid hm; have HSL := Lib.hid hsl; have HRS := Lib.hid hrs; have HSZ := Lib.hid hsz; have HB1 := Lib.hid hb1; have HBX := Lib.hid hbx; have HS1 := Lib.hid hs1; have HSV0 := Lib.hid hsv; have HSV := Lib.hid hsv1; have HMP := Lib.hid hmp1; have HML := Lib.hid hml; have HBD := Lib.hid hbd; have HCL := Lib.hid hCL; have HNM := Lib.hid hnm; have HOK := Lib.hid hok; have HLV := Lib.hid hlv; have HMG := Lib.hid hmg; have HF := Lib.hid hsf; have HIK := Lib.hid hik; have HIU := Lib.hid hiu; have HW1 := Lib.hid hW1; have HAS := Lib.hid hAs
    have HKP1 := Lib.hid (Kp.of_below (M := fun k => k = s ∨ k = g ∨ k = mb) hb1)
    clear hm hnr hik hiu hsl hrs hsz hb1 hbx hs1 hsv hsv1 hmp hmp1 hml hbd hCL hnm hok hlv hmg hsf hW1 hAs
    simp only [tv, Tp.T.kind, Tp.T.num, Tp.T.kids, HLL.out]
    rcases hkd with ⟨hk, rfl, rfl⟩ | ⟨rfl, h0, h1, rfl⟩ | ⟨hk, rfl, rfl⟩ | ⟨rfl, rfl, rfl⟩
    · obtain rfl := List.eq_nil_of_length_eq_zero HLL.out
      have hres : ∀ i : Nat, i < 5 → kk = (i : Int) + 1 → MdP B s g mb L C K lev H M nm (.mk kk 0 []) w (.returned (.tuple #[.int .i64 (i : Int), .int .i64 0])) W1 := fun i hi hki => by
        obtain ⟨d, h1, h2, h3⟩ := HLV.out i hi
        refine ⟨g, cap, i, nm, C, H, M, rfl, HSV.out, ⟨by omega, by omega⟩, HBD.out, HMP.out, by omega, Grow.refl _ _ _, ⟨d, h1, h2, by rw [h3, hki], fun e => by omega, ?_⟩, HKP1.out, .inl rfl, rfl, fun _ _ h => .inl h⟩
        show kidL d.c.kind d.c.a d.c.b = []
        unfold kidL ar
        rw [h3, if_neg (by omega), if_neg (by omega)]; rfl
      have HRES := Lib.hid hres; clear hres
      go_enter Try.func21, Try.ntmps21
      rcases hk with rfl | rfl | rfl | rfl | rfl
      all_goals
        go_upto_region 1 with fail
        rw [HW1.out]
        go_wp2_with fail
      · refine bodyPost_ret (v := .tuple #[.int .i64 ((0 : Nat) : Int), .int .i64 0]) (by simp [results, Try.f21, go_sem]) rfl ?_
        exact HRES.out 0 (by omega) rfl
      · refine bodyPost_ret (v := .tuple #[.int .i64 ((1 : Nat) : Int), .int .i64 0]) (by simp [results, Try.f21, go_sem]) rfl ?_
        exact HRES.out 1 (by omega) rfl
      · refine bodyPost_ret (v := .tuple #[.int .i64 ((2 : Nat) : Int), .int .i64 0]) (by simp [results, Try.f21, go_sem]) rfl ?_
        exact HRES.out 2 (by omega) rfl
      · refine bodyPost_ret (v := .tuple #[.int .i64 ((3 : Nat) : Int), .int .i64 0]) (by simp [results, Try.f21, go_sem]) rfl ?_
        exact HRES.out 3 (by omega) rfl
      · refine bodyPost_ret (v := .tuple #[.int .i64 ((4 : Nat) : Int), .int .i64 0]) (by simp [results, Try.f21, go_sem]) rfl ?_
        exact HRES.out 4 (by omega) rfl
    · obtain rfl := List.eq_nil_of_length_eq_zero HLL.out
      have hlk := im_look HMP.out HIU.out true
      simp only [if_true] at hlk
      clear h0 h1
      go_enter Try.func21, Try.ntmps21
      go_upto_region 1 with fail
      rw [HW1.out]
      cases hM : M un with
      | some p =>
        simp only [imV, hM, imE, Option.isSome] at hlk
        go_wp2_with fail
        refine bodyPost_ret (v := .tuple #[.int .i64 (p : Int), .int .i64 0]) (by simp [results, Try.f21, go_sem]) rfl ?_
        obtain ⟨d, h1, h2, h3⟩ := HOK.out un p hM
        refine ⟨g, cap, p, nm, C, H, M, rfl, HSV.out, ⟨by omega, by omega⟩, HBD.out, HMP.out, by omega, Grow.refl _ _ _, ⟨d, h1, h2, h3, fun _ => hM, ?_⟩, HKP1.out, .inl rfl, rfl, fun _ _ h => .inl h⟩
        show kidL d.c.kind d.c.a d.c.b = []
        unfold kidL ar
        rw [h3, if_neg (by omega), if_neg (by omega)]; rfl
      | none =>
        simp only [imV, hM, Option.isSome] at hlk
        have hs1 : Tp.size (.mk 6 un []) = 1 := rfl
        have hCl : C < L := by have := HCL.out; rw [hs1] at this; omega
        have hV := var12_any HSV.out HBD.out lev hlev hCl
        obtain ⟨N, hN⟩ : ∃ N, H.length = N := ⟨_, rfl⟩
        rw [hN] at hV
        have HV := Lib.hid hV; have HN := Lib.hid hN; have HM := Lib.hid hM; have HCl := Lib.hid hCl
        clear hV hN hM hCl hs1
        go_wp2_with fail
        refine HV.out.mono ?_
        rintro e w3 ⟨rfl, g3, cap3, hsv, hk, hg⟩
        have hk0 := HKP1.out.trans (hk.mono (by rw [HS1.out]; omega) (fun k _ h => h.elim .inl (fun h => .inr (.inl h))))
        have hmp3 : IMAt w3 mb nm M := HMP.out.same (hk.block mb (by have := HML.out; rw [HS1.out]; omega) (fun h => h.elim hms HMG.out))
        have hbx3 := hk.heap HBX.out (by rw [HS1.out]; omega) (fun h => by have := HF.out; omega)
        obtain ⟨W4, hput, hm4, hg4⟩ := im_put hmp3 HIU.out N (by have := HNM.out; have h9 : Tp.size (.mk 6 un []) = 1 := rfl; omega) HM.out
        simp only [imE] at hput
        have hgb : g3 ≠ mb := by rcases hg with hg | hg
                                 · rw [hg]; exact fun e => HMG.out e.symm
                                 · have := HML.out; rw [HS1.out] at hg; omega
        have hsv4 := hsv.same (hg4.block s hsv.far.2.2.1 (fun e => by injection e with e; exact hms e.symm)) (hg4.block g3 hsv.far.2.1 (fun e => by injection e with e; exact hgb e))
        have hk4 : Kp w.heap.size (fun k => k = s ∨ k = g ∨ k = mb) w W4 := hk0.trans ⟨hg4.os, hg4.tape, hg4.output, hg4.size, fun i hi hm => hg4.block i (Nat.lt_of_lt_of_le hi hk0.size) (fun e => hm (.inr (.inr (by injection e))))⟩
        have q1 : w3.cell? ⟨w.heap.size, 1, none⟩ = some (.int .i64 un) := cell_box hbx3 rfl rfl
        have HSV4 := Lib.hid hsv4; have HK4 := Lib.hid hk4; have HM4 := Lib.hid hm4; have HG := Lib.hid hg
        clear hsv hk hg hk0 hmp3 hbx3 hm4 hg4 hgb hsv4 hk4 f0 f1 f2 hlk
        go_wp2_with fail
        refine bodyPost_ret (v := .tuple #[.int .i64 (N : Int), .int .i64 0]) (by simp [results, Try.f21, go_sem]) rfl ?_
        have hgr := Grow.var lev H M un HM.out
        rw [HN.out] at hgr
        have hsv5 := HSV4.out
        rw [HN.out] at hsv5
        have hbd := HBD.out.more HCl.out ⟨⟨6, lev, 0, 0, 0⟩, N⟩
        refine ⟨g3, cap3, N, nm + 1, C + 1, H ++ [⟨⟨6, lev, 0, 0, 0⟩, N⟩], imPut M un N, rfl, hsv5, ⟨by omega, by have h9 : Tp.size (.mk 6 un []) = 1 := rfl; omega⟩, hbd, HM4.out, by have h9 : Tp.size (.mk 6 un []) = 1 := rfl; omega, hgr, ⟨⟨⟨6, lev, 0, 0, 0⟩, N⟩, by have h9 := last12 H ⟨⟨6, lev, 0, 0, 0⟩, N⟩; rw [HN.out] at h9; exact h9, rfl, rfl, fun _ => by unfold imPut; rw [if_pos rfl], rfl⟩, HK4.out, HG.out.imp id (fun h => by rw [HS1.out] at h; omega), by rw [vcnt_snoc, if_pos rfl]; omega, fun k q hq => ?_⟩
        unfold imPut at hq
        split at hq
        · rename_i he; exact .inr (.inl ⟨rfl, he.symm⟩)
        · exact .inl hq
    · obtain ⟨x, y, rfl⟩ : ∃ x y, l = [x, y] := by have := HLL.out; match l, this with | [x, y], _ => exact ⟨x, y, rfl⟩
      rcases hk with rfl | rfl
      · skip
        obtain ⟨b, o, rfl, hbA, hnx, hrx⟩ := HSL.out.2.2.head
        obtain ⟨xa, xc, htx, x0, x1, x2⟩ := hnx.ty
        obtain ⟨b', o', e', hbA', hny, -⟩ := hrx.head
        injection e' with e'
        injection e' with e1 e2 e3
        subst e1 e2
        obtain ⟨ya, yc, hty, y0, y1, y2⟩ := hny.ty
        have hAl : ∀ k, k < A → k < w.heap.size := fun k hk => by have := HF.out; have := HAS.out; omega
        have hb1A : ∀ k, k < A → W1.heap[k]? = w.heap[k]? := fun k hk => HB1.out.block k (hAl k hk)
        have HB1A := Lib.hid hb1A; have HAL := Lib.hid hAl
        have x0' := (World.cell?_of_block (a := ⟨b, o, none⟩) (hb1A b hbA)).trans x0
        have x1' := (World.cell?_of_block (a := ⟨b, o + 1, none⟩) (hb1A b hbA)).trans x1
        have x2' := (World.cell?_of_block (a := ⟨b, o + 2, none⟩) (hb1A b hbA)).trans x2
        have htx1 := ty_same (fun k hk => hb1A k hk) (fun _ h => h) htx
        obtain ⟨hrx, hry⟩ : Tp.right x = true ∧ Tp.right y = true := by have := HRS.out; simp [Tp.rights] at this; exact this
        have hss : Tp.size (.mk 7 0 [x, y]) = Tp.size x + Tp.size y + 1 := by simp [Tp.size, Tp.sizes, Nat.add_assoc]
        have HSS := Lib.hid hss
        have hsz := HSZ.out; have hcl := HCL.out; have hnm := HNM.out
        rw [hss] at hsz hcl hnm
        have hc1 := IH.out x g cap nm C H M xa xc W1 (by omega) hrx HSV.out HBD.out (by omega) HMP.out (by omega) HOK.out HLV.out htx1 HMG.out
        obtain ⟨xk, xn, xm, hvx⟩ := TV.mk x
        rw [tv_of hvx] at hc1
        rw [hvx.1] at x0'; rw [hvx.2.1] at x1'; rw [hvx.2.2] at x2'
        have HC1 := Lib.hid hc1
        obtain ⟨yk, yn, ym, hvy⟩ := TV.mk y
        rw [hvy.1] at y0; rw [hvy.2.1] at y1; rw [hvy.2.2] at y2
        have HY0 := Lib.hid y0; have HY1 := Lib.hid y1; have HY2 := Lib.hid y2; have HTY := Lib.hid hty; have HRY := Lib.hid hry; have HVY := Lib.hid hvy; have HBA' := Lib.hid hbA'
        clear hc1 hvx x0 x1 x2 htx htx1 hss hsz hcl hnm hnx hrx hAl hb1A hbA y0 y1 y2 hty hny hry hvy hbA'
        go_enter Try.func21, Try.ntmps21
        go_upto_region 1 with fail
        rw [HW1.out]
        go_wp2_with fail
        refine HC1.out.mono ?_
        clear HC1
        rintro e w3 ⟨g1, cap1, p1, nm1, C1, H1, M1, rfl, hsv, hC, hbd, hmp, hnm1, hgr, him, hk, hg, hct, hoc⟩
        have HSV3 := Lib.hid hsv; have HC3 := Lib.hid hC; have HBD3 := Lib.hid hbd; have HMP3 := Lib.hid hmp; have HNM3 := Lib.hid hnm1; have HGR3 := Lib.hid hgr; have HIM3 := Lib.hid him; have HG3 := Lib.hid hg; have HCT3 := Lib.hid hct; have HOC3 := Lib.hid hoc; clear hct hoc
        have HK3 := Lib.hid (HKP1.out.trans (hk.mono (by rw [HS1.out]; omega) (fun k _ h => h)))
        have HBX3 := Lib.hid (hk.heap HBX.out (by rw [HS1.out]; omega) (fun h => by have := HF.out; have := HML.out; omega))
        have q0 : w3.cell? ⟨w.heap.size, 0, none⟩ = some (.int .i64 7) := cell_box HBX3.out rfl rfl
        have q2 : w3.cell? ⟨w.heap.size, 2, none⟩ = some (.slice (some ⟨b, o, none⟩) 2 c) := cell_box HBX3.out rfl rfl
        have h3A : ∀ k, k < A → w3.heap[k]? = w.heap[k]? := fun k hk9 => HK3.out.block k (HAL.out k hk9) (fun h => by have := HF.out; have := HAS.out; omega)
        have y0' := (World.cell?_of_block (a := ⟨b, o + 3, none⟩) (h3A b HBA'.out)).trans HY0.out
        have y1' := (World.cell?_of_block (a := ⟨b, o + 3 + 1, none⟩) (h3A b HBA'.out)).trans HY1.out
        have y2' := (World.cell?_of_block (a := ⟨b, o + 3 + 2, none⟩) (h3A b HBA'.out)).trans HY2.out
        have hty3 := ty_same (fun k hk9 => h3A k hk9) (fun _ h => h) HTY.out
        have hsz := HSZ.out; have hcl := HCL.out; have hnm := HNM.out; have hss := HSS.out
        rw [hss] at hsz hcl hnm
        have hmg1 : mb ≠ g1 := by have := HMG.out; have := HML.out; have := HS1.out; rcases hg with hg | hg <;> omega
        have hc2 := IH.out y g1 cap1 nm1 C1 H1 M1 ya yc w3 (by omega) HRY.out hsv hbd (by omega) hmp (by omega) (hgr.ok HOK.out) (hgr.lv HLV.out) hty3 hmg1
        rw [tv_of HVY.out] at hc2
        have HC2 := Lib.hid hc2
        clear hc2 hty3 h3A hsz hcl hnm hss hsv hC hbd hmp hnm1 hgr him hk hg hmg1 f0 f1 f2 x0' x1' x2'
        go_wp2_with fail
        refine HC2.out.mono ?_
        clear HC2
        rintro e w4 ⟨g2, cap2, p2, nm2, C2, H2, M2, rfl, hsv, hC, hbd, hmp, hnm2, hgr, him, hk, hg, hct, hoc⟩
        have hK4 := HK3.out.trans (hk.mono HK3.out.size (fun k h9 h => h.elim .inl (fun h => h.elim (fun h => by rcases HG3.out with h8 | h8; exact .inr (.inl (h.trans h8)); rw [HS1.out] at h8; omega) (fun h => .inr (.inr h)))))
        have hg4 : g2 = g ∨ w.heap.size ≤ g2 := by have := HS1.out; have := HK3.out.size; rcases hg with h | h; rw [h]; rcases HG3.out with h8 | h8; exact .inl h8; exact .inr (by omega); exact .inr (by omega)
        have HSV4 := Lib.hid hsv; have HC4 := Lib.hid hC; have HBD4 := Lib.hid hbd; have HMP4 := Lib.hid hmp; have HNM4 := Lib.hid hnm2; have HGR4 := Lib.hid (HGR3.out.trans hgr HOK.out); have HIMX := Lib.hid (hgr.im HIM3.out); have HIMY := Lib.hid him; have HK4 := Lib.hid hK4; have HG4 := Lib.hid hg4; have HCT4 := Lib.hid hct; have HOC4 := Lib.hid hoc; clear hct hoc
        have q0' : w4.cell? ⟨w.heap.size, 0, none⟩ = some (.int .i64 7) := cell_box (hk.heap HBX3.out (Array.getElem?_eq_some_iff.1 HBX3.out).1 (fun h => by have := HF.out; have := HML.out; have := HS1.out; rcases HG3.out with h8 | h8 <;> omega)) rfl rfl
        clear hsv hC hbd hmp hnm2 hgr him hk hg hg4 hK4
        have hlx := HIMX.out.lt; have hly := HIMY.out.lt
        have hcl := HCL.out; have hc3 := HC3.out; have hc4 := HC4.out; have hss := HSS.out
        rw [hss] at hcl
        have hCL2 : C2 < L := by omega
        have hM : Calls Try.prog 53 #[.pointer (some ⟨s, 0, none⟩), .int .i64 7, .int .i64 (p1 : Int), .int .i64 (p2 : Int)] w4 fun e w' => e = .returned (.tuple #[.int .i64 (H2.length : Int), .int .i64 0]) ∧ AddP B s g2 L C2 K H2 ⟨7, 0, p1, p2, 0⟩ w4 w' := (make12_any HSV4.out HBD4.out 7 p1 p2).mono (fun e w' h => by
          have hall : ((kidL 7 (p1 : Int) (p2 : Int)).all (okN H2.length)) = true := two_tail hlx hly
          unfold MkP at h; rw [if_neg (by rw [hall]; decide), if_neg (by omega)] at h; exact h)
        obtain ⟨N, hN⟩ : ∃ N, H2.length = N := ⟨_, rfl⟩
        rw [hN] at hM
        have HM := Lib.hid hM; have HN := Lib.hid hN; have HC2L := Lib.hid hCL2
        clear hM hN hlx hly hcl hc3 hc4 hss hCL2 q0 q2 y0' y1' y2'
        go_wp2_with fail
        refine HM.out.mono ?_
        clear HM
        rintro e w5 ⟨rfl, g5, cap5, hsv, hk, hg⟩
        have hk5 := HK4.out.trans (hk.mono HK4.out.size (fun k h9 h => h.elim .inl (fun h => by rcases HG4.out with h8 | h8; exact .inr (.inl (h.trans h8)); omega)))
        have hmp5 : IMAt w5 mb nm2 M2 := HMP4.out.same (hk.block mb HMP4.out.lt (fun h => by rcases h with h | h; exact hms h; have := HMG.out; have := HML.out; rcases HG4.out with h8 | h8 <;> omega))
        have hg5 : g5 = g ∨ w.heap.size ≤ g5 := by have := HK4.out.size; rcases hg with h | h; rw [h]; exact HG4.out; exact .inr (by omega)
        have HSV5 := Lib.hid hsv; have HK5 := Lib.hid hk5; have HMP5 := Lib.hid hmp5; have HG5 := Lib.hid hg5
        clear hsv hk hg hk5 hmp5 hg5
        go_wp2_with fail
        refine bodyPost_ret (v := .tuple #[.int .i64 (N : Int), .int .i64 0]) (by simp [results, Try.f21, go_sem]) rfl ?_
        have hc3 := HC3.out; have hc4 := HC4.out; have hn3 := HNM3.out; have hn4 := HNM4.out; have hss := HSS.out
        have hgn := HGR4.out.trans (Grow.node lev H2 M2 ⟨7, 0, p1, p2, 0⟩ (show (7 : Int) ≠ 6 by decide) rfl (show I64 7 from i64_nat (by decide) (by decide))) HOK.out
        have hex : ∀ j q, M2 j = some q → M2 j = some q := fun _ _ h => h
        refine ⟨g5, cap5, N, nm2, C2 + 1, H2 ++ [⟨⟨7, 0, p1, p2, 0⟩, H2.length⟩], M2, rfl, HSV5.out, ⟨by omega, by rw [hss]; omega⟩, HBD4.out.more HC2L.out _, HMP5.out, by rw [hss]; omega, hgn, ⟨⟨⟨7, 0, p1, p2, 0⟩, H2.length⟩, by rw [← HN.out]; exact last12 _ _, HN.out, rfl, fun h => by omega, ?_⟩, HK5.out, HG5.out, by rw [vcnt_snoc, if_neg (show ¬ (7 : Int) = 6 by decide)]; have := HCT3.out; have := HCT4.out; omega, fun k q hq => ?_⟩
        · exact ⟨p1, _, rfl, HIMX.out.mono hex, p2, _, rfl, HIMY.out.mono hex, rfl⟩
        · rcases HOC4.out k q hq with h1 | h1
          · rcases HOC3.out k q h1 with h2 | h2
            · exact .inl h2
            · exact .inr (.inr (.inl h2))
          · exact .inr (.inr (.inr (.inl h1)))
      · skip
        obtain ⟨b, o, rfl, hbA, hnx, hrx⟩ := HSL.out.2.2.head
        obtain ⟨xa, xc, htx, x0, x1, x2⟩ := hnx.ty
        obtain ⟨b', o', e', hbA', hny, -⟩ := hrx.head
        injection e' with e'
        injection e' with e1 e2 e3
        subst e1 e2
        obtain ⟨ya, yc, hty, y0, y1, y2⟩ := hny.ty
        have hAl : ∀ k, k < A → k < w.heap.size := fun k hk => by have := HF.out; have := HAS.out; omega
        have hb1A : ∀ k, k < A → W1.heap[k]? = w.heap[k]? := fun k hk => HB1.out.block k (hAl k hk)
        have HB1A := Lib.hid hb1A; have HAL := Lib.hid hAl
        have x0' := (World.cell?_of_block (a := ⟨b, o, none⟩) (hb1A b hbA)).trans x0
        have x1' := (World.cell?_of_block (a := ⟨b, o + 1, none⟩) (hb1A b hbA)).trans x1
        have x2' := (World.cell?_of_block (a := ⟨b, o + 2, none⟩) (hb1A b hbA)).trans x2
        have htx1 := ty_same (fun k hk => hb1A k hk) (fun _ h => h) htx
        obtain ⟨hrx, hry⟩ : Tp.right x = true ∧ Tp.right y = true := by have := HRS.out; simp [Tp.rights] at this; exact this
        have hss : Tp.size (.mk 9 0 [x, y]) = Tp.size x + Tp.size y + 1 := by simp [Tp.size, Tp.sizes, Nat.add_assoc]
        have HSS := Lib.hid hss
        have hsz := HSZ.out; have hcl := HCL.out; have hnm := HNM.out
        rw [hss] at hsz hcl hnm
        have hc1 := IH.out x g cap nm C H M xa xc W1 (by omega) hrx HSV.out HBD.out (by omega) HMP.out (by omega) HOK.out HLV.out htx1 HMG.out
        obtain ⟨xk, xn, xm, hvx⟩ := TV.mk x
        rw [tv_of hvx] at hc1
        rw [hvx.1] at x0'; rw [hvx.2.1] at x1'; rw [hvx.2.2] at x2'
        have HC1 := Lib.hid hc1
        obtain ⟨yk, yn, ym, hvy⟩ := TV.mk y
        rw [hvy.1] at y0; rw [hvy.2.1] at y1; rw [hvy.2.2] at y2
        have HY0 := Lib.hid y0; have HY1 := Lib.hid y1; have HY2 := Lib.hid y2; have HTY := Lib.hid hty; have HRY := Lib.hid hry; have HVY := Lib.hid hvy; have HBA' := Lib.hid hbA'
        clear hc1 hvx x0 x1 x2 htx htx1 hss hsz hcl hnm hnx hrx hAl hb1A hbA y0 y1 y2 hty hny hry hvy hbA'
        go_enter Try.func21, Try.ntmps21
        go_upto_region 1 with fail
        rw [HW1.out]
        go_wp2_with fail
        refine HC1.out.mono ?_
        clear HC1
        rintro e w3 ⟨g1, cap1, p1, nm1, C1, H1, M1, rfl, hsv, hC, hbd, hmp, hnm1, hgr, him, hk, hg, hct, hoc⟩
        have HSV3 := Lib.hid hsv; have HC3 := Lib.hid hC; have HBD3 := Lib.hid hbd; have HMP3 := Lib.hid hmp; have HNM3 := Lib.hid hnm1; have HGR3 := Lib.hid hgr; have HIM3 := Lib.hid him; have HG3 := Lib.hid hg; have HCT3 := Lib.hid hct; have HOC3 := Lib.hid hoc; clear hct hoc
        have HK3 := Lib.hid (HKP1.out.trans (hk.mono (by rw [HS1.out]; omega) (fun k _ h => h)))
        have HBX3 := Lib.hid (hk.heap HBX.out (by rw [HS1.out]; omega) (fun h => by have := HF.out; have := HML.out; omega))
        have q0 : w3.cell? ⟨w.heap.size, 0, none⟩ = some (.int .i64 9) := cell_box HBX3.out rfl rfl
        have q2 : w3.cell? ⟨w.heap.size, 2, none⟩ = some (.slice (some ⟨b, o, none⟩) 2 c) := cell_box HBX3.out rfl rfl
        have h3A : ∀ k, k < A → w3.heap[k]? = w.heap[k]? := fun k hk9 => HK3.out.block k (HAL.out k hk9) (fun h => by have := HF.out; have := HAS.out; omega)
        have y0' := (World.cell?_of_block (a := ⟨b, o + 3, none⟩) (h3A b HBA'.out)).trans HY0.out
        have y1' := (World.cell?_of_block (a := ⟨b, o + 3 + 1, none⟩) (h3A b HBA'.out)).trans HY1.out
        have y2' := (World.cell?_of_block (a := ⟨b, o + 3 + 2, none⟩) (h3A b HBA'.out)).trans HY2.out
        have hty3 := ty_same (fun k hk9 => h3A k hk9) (fun _ h => h) HTY.out
        have hsz := HSZ.out; have hcl := HCL.out; have hnm := HNM.out; have hss := HSS.out
        rw [hss] at hsz hcl hnm
        have hmg1 : mb ≠ g1 := by have := HMG.out; have := HML.out; have := HS1.out; rcases hg with hg | hg <;> omega
        have hc2 := IH.out y g1 cap1 nm1 C1 H1 M1 ya yc w3 (by omega) HRY.out hsv hbd (by omega) hmp (by omega) (hgr.ok HOK.out) (hgr.lv HLV.out) hty3 hmg1
        rw [tv_of HVY.out] at hc2
        have HC2 := Lib.hid hc2
        clear hc2 hty3 h3A hsz hcl hnm hss hsv hC hbd hmp hnm1 hgr him hk hg hmg1 f0 f1 f2 x0' x1' x2'
        go_wp2_with fail
        refine HC2.out.mono ?_
        clear HC2
        rintro e w4 ⟨g2, cap2, p2, nm2, C2, H2, M2, rfl, hsv, hC, hbd, hmp, hnm2, hgr, him, hk, hg, hct, hoc⟩
        have hK4 := HK3.out.trans (hk.mono HK3.out.size (fun k h9 h => h.elim .inl (fun h => h.elim (fun h => by rcases HG3.out with h8 | h8; exact .inr (.inl (h.trans h8)); rw [HS1.out] at h8; omega) (fun h => .inr (.inr h)))))
        have hg4 : g2 = g ∨ w.heap.size ≤ g2 := by have := HS1.out; have := HK3.out.size; rcases hg with h | h; rw [h]; rcases HG3.out with h8 | h8; exact .inl h8; exact .inr (by omega); exact .inr (by omega)
        have HSV4 := Lib.hid hsv; have HC4 := Lib.hid hC; have HBD4 := Lib.hid hbd; have HMP4 := Lib.hid hmp; have HNM4 := Lib.hid hnm2; have HGR4 := Lib.hid (HGR3.out.trans hgr HOK.out); have HIMX := Lib.hid (hgr.im HIM3.out); have HIMY := Lib.hid him; have HK4 := Lib.hid hK4; have HG4 := Lib.hid hg4; have HCT4 := Lib.hid hct; have HOC4 := Lib.hid hoc; clear hct hoc
        have q0' : w4.cell? ⟨w.heap.size, 0, none⟩ = some (.int .i64 9) := cell_box (hk.heap HBX3.out (Array.getElem?_eq_some_iff.1 HBX3.out).1 (fun h => by have := HF.out; have := HML.out; have := HS1.out; rcases HG3.out with h8 | h8 <;> omega)) rfl rfl
        clear hsv hC hbd hmp hnm2 hgr him hk hg hg4 hK4
        have hlx := HIMX.out.lt; have hly := HIMY.out.lt
        have hcl := HCL.out; have hc3 := HC3.out; have hc4 := HC4.out; have hss := HSS.out
        rw [hss] at hcl
        have hCL2 : C2 < L := by omega
        have hM : Calls Try.prog 53 #[.pointer (some ⟨s, 0, none⟩), .int .i64 9, .int .i64 (p1 : Int), .int .i64 (p2 : Int)] w4 fun e w' => e = .returned (.tuple #[.int .i64 (H2.length : Int), .int .i64 0]) ∧ AddP B s g2 L C2 K H2 ⟨9, 0, p1, p2, 0⟩ w4 w' := (make12_any HSV4.out HBD4.out 9 p1 p2).mono (fun e w' h => by
          have hall : ((kidL 9 (p1 : Int) (p2 : Int)).all (okN H2.length)) = true := two_tail hlx hly
          unfold MkP at h; rw [if_neg (by rw [hall]; decide), if_neg (by omega)] at h; exact h)
        obtain ⟨N, hN⟩ : ∃ N, H2.length = N := ⟨_, rfl⟩
        rw [hN] at hM
        have HM := Lib.hid hM; have HN := Lib.hid hN; have HC2L := Lib.hid hCL2
        clear hM hN hlx hly hcl hc3 hc4 hss hCL2 q0 q2 y0' y1' y2'
        go_wp2_with fail
        refine HM.out.mono ?_
        clear HM
        rintro e w5 ⟨rfl, g5, cap5, hsv, hk, hg⟩
        have hk5 := HK4.out.trans (hk.mono HK4.out.size (fun k h9 h => h.elim .inl (fun h => by rcases HG4.out with h8 | h8; exact .inr (.inl (h.trans h8)); omega)))
        have hmp5 : IMAt w5 mb nm2 M2 := HMP4.out.same (hk.block mb HMP4.out.lt (fun h => by rcases h with h | h; exact hms h; have := HMG.out; have := HML.out; rcases HG4.out with h8 | h8 <;> omega))
        have hg5 : g5 = g ∨ w.heap.size ≤ g5 := by have := HK4.out.size; rcases hg with h | h; rw [h]; exact HG4.out; exact .inr (by omega)
        have HSV5 := Lib.hid hsv; have HK5 := Lib.hid hk5; have HMP5 := Lib.hid hmp5; have HG5 := Lib.hid hg5
        clear hsv hk hg hk5 hmp5 hg5
        go_wp2_with fail
        refine bodyPost_ret (v := .tuple #[.int .i64 (N : Int), .int .i64 0]) (by simp [results, Try.f21, go_sem]) rfl ?_
        have hc3 := HC3.out; have hc4 := HC4.out; have hn3 := HNM3.out; have hn4 := HNM4.out; have hss := HSS.out
        have hgn := HGR4.out.trans (Grow.node lev H2 M2 ⟨9, 0, p1, p2, 0⟩ (show (9 : Int) ≠ 6 by decide) rfl (show I64 9 from i64_nat (by decide) (by decide))) HOK.out
        have hex : ∀ j q, M2 j = some q → M2 j = some q := fun _ _ h => h
        refine ⟨g5, cap5, N, nm2, C2 + 1, H2 ++ [⟨⟨9, 0, p1, p2, 0⟩, H2.length⟩], M2, rfl, HSV5.out, ⟨by omega, by rw [hss]; omega⟩, HBD4.out.more HC2L.out _, HMP5.out, by rw [hss]; omega, hgn, ⟨⟨⟨9, 0, p1, p2, 0⟩, H2.length⟩, by rw [← HN.out]; exact last12 _ _, HN.out, rfl, fun h => by omega, ?_⟩, HK5.out, HG5.out, by rw [vcnt_snoc, if_neg (show ¬ (9 : Int) = 6 by decide)]; have := HCT3.out; have := HCT4.out; omega, fun k q hq => ?_⟩
        · exact ⟨p1, _, rfl, HIMX.out.mono hex, p2, _, rfl, HIMY.out.mono hex, rfl⟩
        · rcases HOC4.out k q hq with h1 | h1
          · rcases HOC3.out k q h1 with h2 | h2
            · exact .inl h2
            · exact .inr (.inr (.inl h2))
          · exact .inr (.inr (.inr (.inl h1)))
    · obtain ⟨x, rfl⟩ : ∃ x, l = [x] := by have := HLL.out; match l, this with | [x], _ => exact ⟨x, rfl⟩
      · skip
        obtain ⟨b, o, rfl, hbA, hnx, hrx⟩ := HSL.out.2.2.head
        obtain ⟨xa, xc, htx, x0, x1, x2⟩ := hnx.ty
        have hAl : ∀ k, k < A → k < w.heap.size := fun k hk => by have := HF.out; have := HAS.out; omega
        have hb1A : ∀ k, k < A → W1.heap[k]? = w.heap[k]? := fun k hk => HB1.out.block k (hAl k hk)
        have HB1A := Lib.hid hb1A; have HAL := Lib.hid hAl
        have x0' := (World.cell?_of_block (a := ⟨b, o, none⟩) (hb1A b hbA)).trans x0
        have x1' := (World.cell?_of_block (a := ⟨b, o + 1, none⟩) (hb1A b hbA)).trans x1
        have x2' := (World.cell?_of_block (a := ⟨b, o + 2, none⟩) (hb1A b hbA)).trans x2
        have htx1 := ty_same (fun k hk => hb1A k hk) (fun _ h => h) htx
        have hrx : Tp.right x = true := by have := HRS.out; simp [Tp.rights] at this; exact this
        have hss : Tp.size (.mk 8 0 [x]) = Tp.size x + 1 := by simp [Tp.size, Tp.sizes]
        have HSS := Lib.hid hss
        have hsz := HSZ.out; have hcl := HCL.out; have hnm := HNM.out
        rw [hss] at hsz hcl hnm
        have hc1 := IH.out x g cap nm C H M xa xc W1 (by omega) hrx HSV.out HBD.out (by omega) HMP.out (by omega) HOK.out HLV.out htx1 HMG.out
        obtain ⟨xk, xn, xm, hvx⟩ := TV.mk x
        rw [tv_of hvx] at hc1
        rw [hvx.1] at x0'; rw [hvx.2.1] at x1'; rw [hvx.2.2] at x2'
        have HC1 := Lib.hid hc1
        clear hc1 hvx x0 x1 x2 htx htx1 hss hsz hcl hnm hnx hrx hAl hb1A hbA
        go_enter Try.func21, Try.ntmps21
        go_upto_region 1 with fail
        rw [HW1.out]
        go_wp2_with fail
        refine HC1.out.mono ?_
        clear HC1
        rintro e w3 ⟨g1, cap1, p1, nm1, C1, H1, M1, rfl, hsv, hC, hbd, hmp, hnm1, hgr, him, hk, hg, hct, hoc⟩
        have HSV3 := Lib.hid hsv; have HC3 := Lib.hid hC; have HBD3 := Lib.hid hbd; have HMP3 := Lib.hid hmp; have HNM3 := Lib.hid hnm1; have HGR3 := Lib.hid hgr; have HIM3 := Lib.hid him; have HG3 := Lib.hid hg; have HCT3 := Lib.hid hct; have HOC3 := Lib.hid hoc; clear hct hoc
        have HK3 := Lib.hid (HKP1.out.trans (hk.mono (by rw [HS1.out]; omega) (fun k _ h => h)))
        have HBX3 := Lib.hid (hk.heap HBX.out (by rw [HS1.out]; omega) (fun h => by have := HF.out; have := HML.out; omega))
        have q0 : w3.cell? ⟨w.heap.size, 0, none⟩ = some (.int .i64 8) := cell_box HBX3.out rfl rfl
        have q2 : w3.cell? ⟨w.heap.size, 2, none⟩ = some (.slice (some ⟨b, o, none⟩) 1 c) := cell_box HBX3.out rfl rfl
        clear hsv hC hbd hmp hnm1 hgr him hk hg f0 f1 f2 x0' x1' x2'
        have hlx := HIM3.out.lt
        have hcl := HCL.out; have hc3 := HC3.out; have hss := HSS.out
        rw [hss] at hcl
        have hCL2 : C1 < L := by omega
        have hM : Calls Try.prog 53 #[.pointer (some ⟨s, 0, none⟩), .int .i64 8, .int .i64 (p1 : Int), .int .i64 (p1 : Int)] w3 fun e w' => e = .returned (.tuple #[.int .i64 (H1.length : Int), .int .i64 0]) ∧ AddP B s g1 L C1 K H1 ⟨8, 0, p1, p1, 0⟩ w3 w' := (make12_any HSV3.out HBD3.out 8 p1 p1).mono (fun e w' h => by
          have hall : ((kidL 8 (p1 : Int) (p1 : Int)).all (okN H1.length)) = true := one_tail hlx
          unfold MkP at h; rw [if_neg (by rw [hall]; decide), if_neg (by omega)] at h; exact h)
        obtain ⟨N, hN⟩ : ∃ N, H1.length = N := ⟨_, rfl⟩
        rw [hN] at hM
        have HM := Lib.hid hM; have HN := Lib.hid hN; have HC2L := Lib.hid hCL2
        clear hM hN hlx hcl hc3 hss hCL2
        go_wp2_with fail
        refine HM.out.mono ?_
        clear HM
        rintro e w5 ⟨rfl, g5, cap5, hsv, hk, hg⟩
        have hk5 := HK3.out.trans (hk.mono HK3.out.size (fun k h9 h => h.elim .inl (fun h => by rcases HG3.out with h8 | h8; exact .inr (.inl (h.trans h8)); rw [HS1.out] at h8; omega)))
        have hmp5 : IMAt w5 mb nm1 M1 := HMP3.out.same (hk.block mb HMP3.out.lt (fun h => by rcases h with h | h; exact hms h; have := HMG.out; have := HML.out; have := HS1.out; rcases HG3.out with h8 | h8 <;> omega))
        have hg5 : g5 = g ∨ w.heap.size ≤ g5 := by have := HK3.out.size; have := HS1.out; rcases hg with h | h; rw [h]; rcases HG3.out with h8 | h8; exact .inl h8; exact .inr (by omega); exact .inr (by omega)
        have HSV5 := Lib.hid hsv; have HK5 := Lib.hid hk5; have HMP5 := Lib.hid hmp5; have HG5 := Lib.hid hg5
        clear hsv hk hg hk5 hmp5 hg5
        go_wp2_with fail
        refine bodyPost_ret (v := .tuple #[.int .i64 (N : Int), .int .i64 0]) (by simp [results, Try.f21, go_sem]) rfl ?_
        have hc3 := HC3.out; have hn3 := HNM3.out; have hss := HSS.out
        have hgn := HGR3.out.trans (Grow.node lev H1 M1 ⟨8, 0, p1, p1, 0⟩ (show (8 : Int) ≠ 6 by decide) rfl (show I64 8 from i64_nat (by decide) (by decide))) HOK.out
        have hex : ∀ j q, M1 j = some q → M1 j = some q := fun _ _ h => h
        refine ⟨g5, cap5, N, nm1, C1 + 1, H1 ++ [⟨⟨8, 0, p1, p1, 0⟩, H1.length⟩], M1, rfl, HSV5.out, ⟨by omega, by rw [hss]; omega⟩, HBD3.out.more HC2L.out _, HMP5.out, by rw [hss]; omega, hgn, ⟨⟨⟨8, 0, p1, p1, 0⟩, H1.length⟩, by rw [← HN.out]; exact last12 _ _, HN.out, rfl, fun h => by omega, ?_⟩, HK5.out, HG5.out, by rw [vcnt_snoc, if_neg (show ¬ (8 : Int) = 6 by decide)]; have := HCT3.out; omega, fun k q hq => ?_⟩
        · exact ⟨p1, _, rfl, HIM3.out.mono hex, rfl⟩
        · rcases HOC3.out k q hq with h2 | h2
          · exact .inl h2
          · exact .inr (.inr (.inl h2))
end Go.Proofs.Yteolbbgnkbcfmaa
