/- store.Level, kids, Var. -/
import Derived.Test.YtaaapdfdedknfaaStF
namespace Go.Proofs.Ytaaapdfdedknfaa
open Go Go.RowKit
open Tp (T)
open Sg (Of Rt)
/-- What bounds a store: its count, its limit, its nodes. -/
structure Bds (L C : Int) (H : List SNd) : Prop where
  c0 : 0 ≤ C
  cl : C ≤ L
  l : L ≤ 65536
  n : (H.length : Int) ≤ C + 5
theorem AddP.below {B s g : Nat} {L C K : Int} {H : List SNd} {c : Sg.Cr} {w w1 w2 : World} (h : AddP B s g L C K H c w1 w2) (hb : Below w.heap.size w w1) : AddP B s g L C K H c w w2 := by
  obtain ⟨g', cap', h1, h2, h3⟩ := h
  exact ⟨g', cap', h1, (Kp.of_below hb).trans (h2.mono hb.size (fun _ _ h => h)), h3.imp id (fun h => Nat.le_trans hb.size h)⟩
section
variable {B s g cap : Nat} {L C K : Int} {w : World} {H : List SNd}
set_option maxRecDepth 100000 in
theorem level12_out (h : SV B s g cap L C K w H) {x : Int} (hx : okN H.length x = false) :
    Calls Try.prog 41 #[.pointer (some ⟨s, 0, none⟩), .int .i64 x] w fun e w' => e = .returned (.int .i64 (-1)) ∧ Below w.heap.size w w' := by
  have hk := kind12_out h hx
  clear h
  go_enter Try.func41, Try.ntmps41
  go_wp2_with fail
  refine hk.mono ?_
  rintro e w2 ⟨rfl, hb⟩
  go_wp2_with fail
  go_ret
  exact ⟨rfl, hb⟩
set_option maxRecDepth 100000 in
set_option maxHeartbeats 2000000 in
theorem level12_any (h : SV B s g cap L C K w H) {p : Nat} {d r : SNd} (hd : H[p]? = some d) (hr : H[d.up]? = some r) :
    Calls Try.prog 41 #[.pointer (some ⟨s, 0, none⟩), .int .i64 (p : Int)] w fun e w' => e = .returned (.int .i64 (if r.c.kind = 6 then r.c.level else -1)) ∧ SV B s g cap L C K w' H ∧ Kp w.heap.size (fun k => k = g) w w' := by
  have hpl := (List.getElem?_eq_some_iff.1 hd).1
  have hrl := (List.getElem?_eq_some_iff.1 hr).1
  have hk := kind12_any h hd hr
  have hroot := fun x (hx : SV B s g cap L C K x H) => root12_any hx hd
  obtain ⟨q, hq⟩ : ∃ q, d.up = q := ⟨_, rfl⟩
  rw [hq] at hr hrl hroot
  obtain ⟨kk, hkk⟩ : ∃ q, r.c.kind = q := ⟨_, rfl⟩
  rw [hkk] at hk ⊢
  obtain ⟨q0, q1⟩ := pt_int hrl
  have HN := Lib.hid hr; have HRT := Lib.hid hroot; have HKD := Lib.hid hk; have HKK := Lib.hid hkk
  clear hr hroot hq hrl hk hkk h
  go_enter Try.func41, Try.ntmps41
  go_upto_region 1 with fail
  go_wp2_with fail
  refine HKD.out.mono ?_
  rintro e w2 ⟨rfl, hsv, hk⟩
  have HSV := Lib.hid hsv; have HK1 := Lib.hid hk
  clear hsv hk
  by_cases h6 : kk = 6
  · subst h6
    go_upto_region 3 with fail
    have HSV := Lib.hid HSV.out.drew
    refine wp_region_rel (R := RS B s g cap L C K H) RS.refl RS.trans [(0, false), (0, false), (0, false), (0, false), (0, false), (0, false), (0, true), (0, false), (0, false), (0, false), (0, false)] (by kernel_rfl) (by kernel_rfl) (by kernel_rfl) (fun _ _ _ d _ h => by cases d <;> exact h) ?_
    repeat
      first
      | (first | with_reducible refine rp0 (fun K hK => ?_) | with_reducible refine rp1 (fun K hK => ?_) | with_reducible refine rp2 (fun K hK => ?_) | with_reducible refine rp3 (fun K hK => ?_) | with_reducible refine rp4 (fun K hK => ?_)
         go_simp
         first
         | (with_reducible refine hK _ _ ?_; clear hK K)
         | (with_reducible apply Exists.intro
            refine ⟨fun x hx => ?_, hK _ _ ?_⟩
            first
              | (with_reducible exact rfl)
              | (have y0 := (hx.1 HSV.out).sbox.2.2.1; go_simp; done)
              | (have y0 := (hx.1 HSV.out).sbox.2.2.1; go_simp; with_reducible exact rfl)
            clear hK K))
      | (first | with_reducible refine rk0 ?_ (fun K hK => ?_) | with_reducible refine rk1 ?_ (fun K hK => ?_) | with_reducible refine rk2 ?_ (fun K hK => ?_) | with_reducible refine rk3 ?_ (fun K hK => ?_) | with_reducible refine rk4 ?_ (fun K hK => ?_)
         rfl
         go_simp
         with_reducible refine hK _ _ ?_
         clear hK K)
    first | with_reducible refine rc0 (fun K hK => ?_) | with_reducible refine rc1 (fun K hK => ?_) | with_reducible refine rc2 (fun K hK => ?_) | with_reducible refine rc3 (fun K hK => ?_) | with_reducible refine rc4 (fun K hK => ?_)
    go_simp
    refine (HRT.out _ HSV.out).mono ?_
    rintro e w4 ⟨rfl, hsv, hk⟩
    refine ⟨⟨fun _ => hsv, hk⟩, hK _ _ ?_⟩
    clear hK K
    have HSV4 := Lib.hid hsv; have HK4 := Lib.hid hk
    clear hsv hk
    clear HSV
    have HSV := HSV4
    have cb := HSV.out.sbox.2.2.1
    repeat
      first
      | (first | with_reducible refine rp0 (fun K hK => ?_) | with_reducible refine rp1 (fun K hK => ?_) | with_reducible refine rp2 (fun K hK => ?_) | with_reducible refine rp3 (fun K hK => ?_) | with_reducible refine rp4 (fun K hK => ?_)
         go_simp
         first
         | (with_reducible refine hK _ _ ?_; clear hK K)
         | (with_reducible apply Exists.intro
            refine ⟨fun x hx => ?_, hK _ _ ?_⟩
            first
              | (with_reducible exact rfl)
              | (have y0 := (hx.1 HSV.out).sbox.2.2.1; have y1 := ((hx.1 HSV.out).node HN.out).2.1; go_simp; done)
              | (have y0 := (hx.1 HSV.out).sbox.2.2.1; have y1 := ((hx.1 HSV.out).node HN.out).2.1; go_simp; with_reducible exact rfl)
            clear hK K))
      | (first | with_reducible refine rk0 ?_ (fun K hK => ?_) | with_reducible refine rk1 ?_ (fun K hK => ?_) | with_reducible refine rk2 ?_ (fun K hK => ?_) | with_reducible refine rk3 ?_ (fun K hK => ?_) | with_reducible refine rk4 ?_ (fun K hK => ?_)
         rfl
         go_simp
         with_reducible refine hK _ _ ?_
         clear hK K)
    with_reducible refine rel_nil ?_
    go_wp2_with fail
    go_ret
    exact ⟨rfl, HSV.out, (HK1.out.drew).next HK4.out⟩
  · have h6' : (kk == 6) = false := by simp [h6]
    have h6'' : (kk != 6) = true := by simp [h6]
    go_wp2_with fail
    go_ret
    exact ⟨rfl, HSV.out, HK1.out⟩
set_option maxRecDepth 100000 in
set_option maxHeartbeats 2000000 in
theorem kids12_any (h : SV B s g cap L C K w H) {p : Nat} {d : SNd} (hd : H[p]? = some d) :
    Calls Try.prog 91 #[.pointer (some ⟨s, 0, none⟩), .int .i64 (p : Int)] w fun e w' => e = .returned (.slice (some ⟨g, p * 6 + 2, none⟩) (ar d.c.kind) 2) ∧ Below w.heap.size w w' := by
  have hpl := (List.getElem?_eq_some_iff.1 hd).1
  obtain ⟨q0, q1⟩ := pt_int hpl
  obtain ⟨c0, c1, c2, c3⟩ := h.sbox
  have ck := (h.node hd).1
  obtain ⟨kk, hkk⟩ : ∃ q, d.c.kind = q := ⟨_, rfl⟩
  rw [hkk] at ck ⊢
  have hks := kids_slice g (p * 6 + 2) (ar kk) (ar_le kk)
  obtain ⟨m, hm⟩ : ∃ q, ar kk = q := ⟨_, rfl⟩
  have har := fun x => arity12_any kk x
  rw [hm] at hks ⊢
  simp only [hm] at har
  have HAR := Lib.hid har; have HGL := Lib.hid h.far.2.1
  clear har hkk hm h hd
  go_enter Try.func91, Try.ntmps91
  go_upto_region 2 with fail
  have HCB := Lib.hid (show w.drew.cell? ⟨g, p * 6, none⟩ = some (.int .i64 kk) from ck)
  refine wp_region_rel (R := fun a b => Below w.heap.size a b) (fun _ => Below.refl _ _) (fun h k => h.trans k) [(0, false), (0, false), (0, false), (0, false), (0, false), (0, false), (0, false), (0, true), (0, false), (0, false)] (by kernel_rfl) (by kernel_rfl) (by kernel_rfl) (fun _ _ _ d _ h => by cases d <;> exact h) ?_
  repeat
    first
    | (first | with_reducible refine rp0 (fun K hK => ?_) | with_reducible refine rp1 (fun K hK => ?_) | with_reducible refine rp2 (fun K hK => ?_) | with_reducible refine rp3 (fun K hK => ?_) | with_reducible refine rp4 (fun K hK => ?_)
       go_simp
       first
       | (with_reducible refine hK _ _ ?_; clear hK K)
       | (with_reducible apply Exists.intro
          refine ⟨fun x hx => ?_, hK _ _ ?_⟩
          first
            | (with_reducible exact rfl)
            | (have y0 := (World.cell?_of_block (a := ⟨g, p * 6, none⟩) (hx.block g HGL.out)).trans HCB.out; go_simp; done)
            | (have y0 := (World.cell?_of_block (a := ⟨g, p * 6, none⟩) (hx.block g HGL.out)).trans HCB.out; go_simp; with_reducible exact rfl)
          clear hK K))
    | (first | with_reducible refine rk0 ?_ (fun K hK => ?_) | with_reducible refine rk1 ?_ (fun K hK => ?_) | with_reducible refine rk2 ?_ (fun K hK => ?_) | with_reducible refine rk3 ?_ (fun K hK => ?_) | with_reducible refine rk4 ?_ (fun K hK => ?_)
       rfl
       go_simp
       with_reducible refine hK _ _ ?_
       clear hK K)
  first | with_reducible refine rc0 (fun K hK => ?_) | with_reducible refine rc1 (fun K hK => ?_) | with_reducible refine rc2 (fun K hK => ?_) | with_reducible refine rc3 (fun K hK => ?_) | with_reducible refine rc4 (fun K hK => ?_)
  go_simp
  refine (HAR.out _).mono ?_
  rintro e w4 ⟨rfl, rfl⟩
  refine ⟨Below.refl _ _, hK _ _ ?_⟩
  clear hK K
  repeat
    first
    | (first | with_reducible refine rp0 (fun K hK => ?_) | with_reducible refine rp1 (fun K hK => ?_) | with_reducible refine rp2 (fun K hK => ?_) | with_reducible refine rp3 (fun K hK => ?_) | with_reducible refine rp4 (fun K hK => ?_)
       go_simp
       first
       | (with_reducible refine hK _ _ ?_; clear hK K)
       | (with_reducible apply Exists.intro
          refine ⟨fun x hx => ?_, hK _ _ ?_⟩
          first
            | (with_reducible exact rfl)
          clear hK K))
    | (first | with_reducible refine rk0 ?_ (fun K hK => ?_) | with_reducible refine rk1 ?_ (fun K hK => ?_) | with_reducible refine rk2 ?_ (fun K hK => ?_) | with_reducible refine rk3 ?_ (fun K hK => ?_) | with_reducible refine rk4 ?_ (fun K hK => ?_)
       rfl
       go_simp
       with_reducible refine hK _ _ ?_
       clear hK K)
  with_reducible refine rel_nil ?_
  go_wp2_with fail
  go_ret
  exact ⟨rfl, (Below.refl _ _).drew⟩
set_option maxRecDepth 100000 in
set_option maxHeartbeats 2000000 in
theorem var12_any (h : SV B s g cap L C K w H) (hB : Bds L C H) (l : Int) (hl : 0 ≤ l) (hC : C < L) :
    Calls Try.prog 40 #[.pointer (some ⟨s, 0, none⟩), .int .i64 l] w fun e w' => e = .returned (.tuple #[.int .i64 (H.length : Int), .int .i64 0]) ∧ AddP B s g L C K H ⟨6, l, 0, 0, 0⟩ w w' := by
  obtain ⟨b0, b1, b2, b3⟩ := hB
  have hl' : ¬ l < 0 := by omega
  have hr := room12_any h
  have hw : wrap64 (L - C) = L - C := by unfold wrap64; omega
  rw [hw] at hr
  have hrn : (L - C == 0) = false := by simp; omega
  obtain ⟨q, hq⟩ : ∃ q, L - C = q := ⟨_, rfl⟩
  rw [hq] at hr hrn
  have HR := Lib.hid hr; have HSV := Lib.hid h
  have had := fun x (hx : SV B s g cap L C K x H) => add12_any hx ⟨6, l, 0, 0, 0⟩ 0 (by omega) ⟨b0, by omega⟩
  have HAD := Lib.hid had
  clear hr h had hq hw b0 b1 b2 b3 hC
  go_enter Try.func40, Try.ntmps40
  go_wp2_with fail
  refine HR.out.mono ?_
  rintro e w2 ⟨rfl, hb⟩
  have HB := Lib.hid hb
  clear hb
  go_wp2_with fail
  refine (HAD.out _ (HSV.out.below HB.out)).mono ?_
  rintro e w3 ⟨rfl, hp⟩
  have HP := Lib.hid hp
  clear hp
  go_wp2_with fail
  exact bodyPost_ret (v := .tuple #[.int .i64 (H.length : Int), .int .i64 0]) (by simp [results, Try.f40, go_sem]) rfl ⟨rfl, HP.out.below HB.out⟩
set_option maxRecDepth 100000 in
theorem var12_full (h : SV B s g cap L C K w H) (l : Int) (hl : 0 ≤ l) (hC : C = L) :
    Calls Try.prog 40 #[.pointer (some ⟨s, 0, none⟩), .int .i64 l] w fun e w' => e = .returned (.tuple #[.int .i64 0, .int .i64 7]) ∧ Below w.heap.size w w' := by
  have hl' : ¬ l < 0 := by omega
  have hr := room12_any h
  have hw : wrap64 (L - C) = 0 := by unfold wrap64; omega
  rw [hw] at hr
  clear h hw hC
  go_enter Try.func40, Try.ntmps40
  go_wp2_with fail
  refine hr.mono ?_
  rintro e w2 ⟨rfl, hb⟩
  go_wp2_with fail
  exact bodyPost_ret (v := .tuple #[.int .i64 0, .int .i64 7]) (by simp [results, Try.f40, go_sem]) rfl ⟨rfl, hb⟩
end
end Go.Proofs.Ytaaapdfdedknfaa
