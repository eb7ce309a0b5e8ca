/- store.Kind, Level, kids; Root of what is no node. -/
import Derived.Test.YtaaapdfdedknfaaStD
namespace Go.Proofs.Ytaaapdfdedknfaa
open Go Go.RowKit
open Tp (T)
open Sg (Of Rt)
/-- Worlds in which the store says the same. -/
def RS (B s g cap : Nat) (L C K : Int) (H : List SNd) (w w' : World) : Prop := (SV B s g cap L C K w H → SV B s g cap L C K w' H) ∧ Kp w.heap.size (fun k => k = g) w w'
theorem RS.refl {B s g cap : Nat} {L C K : Int} {H : List SNd} (w : World) : RS B s g cap L C K H w w := ⟨id, Kp.refl _ _ _⟩
theorem RS.trans {B s g cap : Nat} {L C K : Int} {H : List SNd} {a b c : World} (h : RS B s g cap L C K H a b) (k : RS B s g cap L C K H b c) : RS B s g cap L C K H a c := ⟨fun x => k.1 (h.1 x), h.2.trans (k.2.mono h.2.size (fun _ _ h => h))⟩
theorem Kp.next {M : Nat → Prop} {a b c : World} (h : Kp a.heap.size M a b) (k : Kp b.heap.size M b c) : Kp a.heap.size M a c := h.trans (k.mono h.size (fun _ _ h => h))
theorem SV.drew {B s g cap : Nat} {L C K : Int} {w : World} {H : List SNd} (h : SV B s g cap L C K w H) : SV B s g cap L C K w.drew H := h.same rfl rfl
theorem kids_slice (b o k : Nat) (hk : k ≤ 2) (w : World) : (Instr.sliceAt 90 (.pointer (some ⟨b, o, none⟩)) none (some (.int .i64 (k : Int))) none).run Try.prog w = .ok (.slice (some ⟨b, o, none⟩) k 2) w := by
  have hal : Try.prog.arrayLen 90 = 2 := by kernel_rfl
  rw [run_sliceAt_array_h w 90 ⟨b, o, none⟩ (by kernel_rfl) .i64 (k : Int) (by omega) (by rw [hal]; omega), hal]
  have hsz : (sizeOf (Try.prog.elem 90)).run Try.prog w = .ok 1 w := by kernel_rfl
  rw [hsz]
  simp [Result.andThen, slicedAt, add_flat]
theorem ar_le (k : Int) : ar k ≤ 2 := by unfold ar; split <;> (try split) <;> omega
section
variable {B s g cap : Nat} {L C K : Int} {w : World} {H : List SNd}
set_option maxRecDepth 100000 in
theorem root12_out (h : SV B s g cap L C K w H) {x : Int} (hx : okN H.length x = false) :
    Calls Try.prog 37 #[.pointer (some ⟨s, 0, none⟩), .int .i64 x] w fun e w' => e = .returned (.int .i64 (-1)) ∧ Below w.heap.size w w' := by
  have hx' : [x].all (okN H.length) = false := by simp [hx]
  obtain ⟨W1, hW1⟩ : ∃ W, w.alloc (.cells #[.int .i64 x] 3) = W := ⟨_, rfl⟩
  have hb1 : Below w.heap.size w W1 := by rw [← hW1]; exact (Below.refl _ _).alloc (Nat.le_refl _) _
  have h1 := h.below hb1
  have hhv := have12_any h1 [x] (some ⟨w.heap.size, 0, none⟩) 1 (by unfold maxLen; simp) (by rw [← hW1]; exact ints_one w x)
  rw [hx'] at hhv
  have HHV := Lib.hid hhv; have HW1 := Lib.hid hW1; have HB1 := Lib.hid hb1; have HSV := Lib.hid h1
  clear hhv hW1 hb1 h1 h
  go_enter Try.func37, Try.ntmps37
  go_upto_region 1 with fail
  go_wp2_with fail
  rw [HW1.out]
  refine HHV.out.mono ?_
  rintro e w2 ⟨rfl, rfl⟩
  go_wp2_with fail
  go_ret
  exact ⟨rfl, HB1.out⟩
set_option maxRecDepth 100000 in
theorem kind12_out (h : SV B s g cap L C K w H) {x : Int} (hx : okN H.length x = false) :
    Calls Try.prog 38 #[.pointer (some ⟨s, 0, none⟩), .int .i64 x] w fun e w' => e = .returned (.int .i64 (0)) ∧ Below w.heap.size w w' := by
  have hx' : [x].all (okN H.length) = false := by simp [hx]
  obtain ⟨W1, hW1⟩ : ∃ W, w.alloc (.cells #[.int .i64 x] 3) = W := ⟨_, rfl⟩
  have hb1 : Below w.heap.size w W1 := by rw [← hW1]; exact (Below.refl _ _).alloc (Nat.le_refl _) _
  have h1 := h.below hb1
  have hhv := have12_any h1 [x] (some ⟨w.heap.size, 0, none⟩) 1 (by unfold maxLen; simp) (by rw [← hW1]; exact ints_one w x)
  rw [hx'] at hhv
  have HHV := Lib.hid hhv; have HW1 := Lib.hid hW1; have HB1 := Lib.hid hb1; have HSV := Lib.hid h1
  clear hhv hW1 hb1 h1 h
  go_enter Try.func38, Try.ntmps38
  go_upto_region 1 with fail
  go_wp2_with fail
  rw [HW1.out]
  refine HHV.out.mono ?_
  rintro e w2 ⟨rfl, rfl⟩
  go_wp2_with fail
  go_ret
  exact ⟨rfl, HB1.out⟩
set_option maxRecDepth 100000 in
set_option maxHeartbeats 2000000 in
theorem kind12_any (h : SV B s g cap L C K w H) {p : Nat} {d r : SNd} (hd : H[p]? = some d) (hr : H[d.up]? = some r) :
    Calls Try.prog 38 #[.pointer (some ⟨s, 0, none⟩), .int .i64 (p : Int)] w fun e w' => e = .returned (.int .i64 r.c.kind) ∧ SV B s g cap L C K w' H ∧ Kp w.heap.size (fun k => k = g) w w' := by
  have hpl := (List.getElem?_eq_some_iff.1 hd).1
  have hrl := (List.getElem?_eq_some_iff.1 hr).1
  have hroot := fun x (hx : SV B s g cap L C K x H) => root12_any hx hd
  obtain ⟨q, hq⟩ : ∃ q, d.up = q := ⟨_, rfl⟩
  rw [hq] at hr hrl hroot
  obtain ⟨q0, q1⟩ := pt_int hrl
  have HN := Lib.hid hr; have HRT := Lib.hid hroot
  clear hr hroot hq hrl
  obtain ⟨W1, hW1⟩ : ∃ W, w.alloc (.cells #[.int .i64 (p : Int)] 3) = W := ⟨_, rfl⟩
  have hb1 : Below w.heap.size w W1 := by rw [← hW1]; exact (Below.refl _ _).alloc (Nat.le_refl _) _
  have h1 := h.below hb1
  have hhv := have12_any h1 [(p : Int)] (some ⟨w.heap.size, 0, none⟩) 1 (by unfold maxLen; simp) (by rw [← hW1]; exact ints_one w (p : Int))
  rw [okN_nat hpl] at hhv
  have HHV := Lib.hid hhv; have HW1 := Lib.hid hW1; have HB1 := Lib.hid hb1; have HSV := Lib.hid h1
  clear hhv hW1 hb1 h1 h
  go_enter Try.func38, Try.ntmps38
  go_upto_region 1 with fail
  go_wp2_with fail
  rw [HW1.out]
  refine HHV.out.mono ?_
  rintro e w2 ⟨rfl, rfl⟩
  go_upto_region 3 with fail
  have HSV := Lib.hid HSV.out.drew
  refine wp_region_rel (R := RS B s g cap L C K H) RS.refl RS.trans [(0, false), (0, false), (0, false), (0, false), (0, false), (0, false), (0, true), (0, false), (0, false), (0, false), (0, false)] (by kernel_rfl) (by kernel_rfl) (by kernel_rfl) (fun _ _ _ d _ h => by cases d <;> exact h) ?_
  repeat
    first
    | (first | with_reducible refine rp0 (fun K hK => ?_) | with_reducible refine rp1 (fun K hK => ?_) | with_reducible refine rp2 (fun K hK => ?_) | with_reducible refine rp3 (fun K hK => ?_) | with_reducible refine rp4 (fun K hK => ?_)
       go_simp
       first
       | (with_reducible refine hK _ _ ?_; clear hK K)
       | (with_reducible apply Exists.intro
          refine ⟨fun x hx => ?_, hK _ _ ?_⟩
          first
            | (with_reducible exact rfl)
            | (have y0 := (hx.1 HSV.out).sbox.2.2.1; go_simp; done)
            | (have y0 := (hx.1 HSV.out).sbox.2.2.1; go_simp; with_reducible exact rfl)
          clear hK K))
    | (first | with_reducible refine rk0 ?_ (fun K hK => ?_) | with_reducible refine rk1 ?_ (fun K hK => ?_) | with_reducible refine rk2 ?_ (fun K hK => ?_) | with_reducible refine rk3 ?_ (fun K hK => ?_) | with_reducible refine rk4 ?_ (fun K hK => ?_)
       rfl
       go_simp
       with_reducible refine hK _ _ ?_
       clear hK K)
  first | with_reducible refine rc0 (fun K hK => ?_) | with_reducible refine rc1 (fun K hK => ?_) | with_reducible refine rc2 (fun K hK => ?_) | with_reducible refine rc3 (fun K hK => ?_) | with_reducible refine rc4 (fun K hK => ?_)
  go_simp
  refine (HRT.out _ HSV.out).mono ?_
  rintro e w4 ⟨rfl, hsv, hk⟩
  refine ⟨⟨fun _ => hsv, hk⟩, hK _ _ ?_⟩
  clear hK K
  have HSV4 := Lib.hid hsv; have HK4 := Lib.hid hk
  clear hsv hk
  clear HSV
  have HSV := HSV4
  have cb := HSV.out.sbox.2.2.1
  repeat
    first
    | (first | with_reducible refine rp0 (fun K hK => ?_) | with_reducible refine rp1 (fun K hK => ?_) | with_reducible refine rp2 (fun K hK => ?_) | with_reducible refine rp3 (fun K hK => ?_) | with_reducible refine rp4 (fun K hK => ?_)
       go_simp
       first
       | (with_reducible refine hK _ _ ?_; clear hK K)
       | (with_reducible apply Exists.intro
          refine ⟨fun x hx => ?_, hK _ _ ?_⟩
          first
            | (with_reducible exact rfl)
            | (have y0 := (hx.1 HSV.out).sbox.2.2.1; have y1 := ((hx.1 HSV.out).node HN.out).1; go_simp; done)
            | (have y0 := (hx.1 HSV.out).sbox.2.2.1; have y1 := ((hx.1 HSV.out).node HN.out).1; go_simp; with_reducible exact rfl)
          clear hK K))
    | (first | with_reducible refine rk0 ?_ (fun K hK => ?_) | with_reducible refine rk1 ?_ (fun K hK => ?_) | with_reducible refine rk2 ?_ (fun K hK => ?_) | with_reducible refine rk3 ?_ (fun K hK => ?_) | with_reducible refine rk4 ?_ (fun K hK => ?_)
       rfl
       go_simp
       with_reducible refine hK _ _ ?_
       clear hK K)
  with_reducible refine rel_nil ?_
  go_wp2_with fail
  go_ret
  exact ⟨rfl, HSV.out, (Kp.of_below HB1.out.drew).next HK4.out⟩
end
end Go.Proofs.Ytaaapdfdedknfaa
