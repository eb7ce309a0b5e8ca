/- store.Lower. -/
import Derived.Test.YteolbbgnkbcfmaaStL
namespace Go.Proofs.Yteolbbgnkbcfmaa
open Go Go.RowKit
open Tp (T)
open Sg (Of Rt Den Dens Alk Mkd trav travs rootOf kidsOf)
attribute [local go_sem] Oper.semAt_some
section
variable {B s g cap : Nat} {L C K : Int} {w : World} {H : List SNd}
/-- What Lower leaves. -/
def LwP (B s g cap : Nat) (L C K : Int) (H : List SNd) (vs : List Nat) (lv : Int) (w : World) (e : Ending) (w' : World) : Prop :=
  e = .returned (.int .i64 0) ∧ Kp w.heap.size (fun z => z = s ∨ z = g) w w' ∧ ∃ H', Alk H H' ∧ (∀ d ∈ H', d.c.met ≤ K + 1) ∧ SV B s g cap L C (K + 1) w' (lows H' vs lv)
set_option maxRecDepth 100000 in
set_option maxHeartbeats 4000000 in
theorem flower12_any (h : SV B s g cap L C K w H) (hm : ∀ d ∈ H, d.c.met ≤ K) (hK : 0 ≤ K ∧ K < 4611686018427387904) {p : Nat} {t : T} (hD : Den H t p) (hsz : Tp.size t ≤ 1000000) (lv : Int) (hlv : 0 ≤ lv) :
    Calls Try.prog 60 #[.pointer (some ⟨s, 0, none⟩), .int .i64 (p : Int), .int .i64 lv] w (LwP B s g cap L C K H (varsOf H (trav H t p [])) lv w) := by
  have hpl : p < H.length := by obtain ⟨d, _, hd, _⟩ := hD.open; exact (List.getElem?_eq_some_iff.1 hd).1
  obtain ⟨W1, hW1⟩ : ∃ W, w.alloc (.cells #[.int .i64 (p : Int)] 3) = W := ⟨_, rfl⟩
  have hb1 : Below w.heap.size w W1 := by rw [← hW1]; exact (Below.refl _ _).alloc (Nat.le_refl _) _
  have h1 := h.below hb1
  have hhv := have12_any h1 [(p : Int)] (some ⟨w.heap.size, 0, none⟩) 1 (by unfold maxLen; simp) (by rw [← hW1]; exact ints_one w (p : Int))
  rw [okN_nat hpl] at hhv
  have hva := vars12_any h1 hm hK hD hsz
  have hvl : (varsOf H (trav H t p [])).length ≤ 4000000 := by
    have h1 : (varsOf H (trav H t p [])).length ≤ (trav H t p []).length := List.length_filter_le _ _
    have h2 := trav_len (H := H) t p []
    simp only [List.length_nil] at h2; omega
  have hvi : ∀ v ∈ varsOf H (trav H t p []), v < H.length := fun v hv => by
    have h2 := (List.mem_filter.1 hv).2
    unfold isV at h2
    cases hd : H[v]? with
    | none => rw [hd] at h2; cases h2
    | some d => exact (List.getElem?_eq_some_iff.1 hd).1
  obtain ⟨vs, hvs⟩ : ∃ x, varsOf H (trav H t p []) = x := ⟨_, rfl⟩
  rw [hvs] at hva hvl hvi ⊢
  have hl0 : ¬ lv < 0 := by omega
  have HHV := Lib.hid hhv; have HW1 := Lib.hid hW1; have HB1 := Lib.hid hb1; have HVA := Lib.hid hva; have HVL := Lib.hid hvl; have HVI := Lib.hid hvi; have HGL := Lib.hid h1.far.2.1
  clear hhv hW1 hb1 h1 hm hK hD hsz hpl hva hvl hvi hvs h
  go_enter Try.func60, Try.ntmps60
  go_upto_region 1 with fail
  go_wp2_with fail
  rw [HW1.out]
  refine HHV.out.mono ?_
  rintro e w2 ⟨rfl, rfl⟩
  go_wp2_with fail
  refine HVA.out.mono ?_
  rintro e w3 ⟨v, H', rfl, hown, hsv, hal, hmt, hk⟩
  obtain ⟨va, vc, rfl, hna, hvb⟩ := nats_own hown
  have hlw := lower12_any hsv vs lv va vc HVL.out hna (fun b o e => by have := hvb b o e; have := HGL.out; omega) (fun v hv => by rw [← hal.len]; exact HVI.out v hv)
  have HLW := Lib.hid hlw; have HK3 := Lib.hid ((Kp.of_below (M := fun z => z = s ∨ z = g) HB1.out).trans (hk.mono HB1.out.size (fun _ _ h => h))); have HAL := Lib.hid hal; have HMT := Lib.hid hmt
  clear hlw hown hsv hal hmt hk hna hvb
  go_wp2_with fail
  refine HLW.out.mono ?_
  rintro e w4 ⟨⟨u, rfl⟩, hsv, hk⟩
  have HSV4 := Lib.hid hsv; have HK4 := Lib.hid (HK3.out.trans (hk.mono HK3.out.size (fun _ _ h => .inr h)))
  clear hsv hk
  go_wp2_with fail
  go_ret
  exact ⟨rfl, HK4.out, H', HAL.out, HMT.out, HSV4.out⟩
set_option maxRecDepth 100000 in
theorem flower12_low (h : SV B s g cap L C K w H) {p : Nat} (hpl : p < H.length) (lv : Int) (hlv : lv < 0) :
    Calls Try.prog 60 #[.pointer (some ⟨s, 0, none⟩), .int .i64 (p : Int), .int .i64 lv] w fun e w' => e = .returned (.int .i64 1) ∧ Below w.heap.size w w' := by
  obtain ⟨W1, hW1⟩ : ∃ W, w.alloc (.cells #[.int .i64 (p : Int)] 3) = W := ⟨_, rfl⟩
  have hb1 : Below w.heap.size w W1 := by rw [← hW1]; exact (Below.refl _ _).alloc (Nat.le_refl _) _
  have h1 := h.below hb1
  have hhv := have12_any h1 [(p : Int)] (some ⟨w.heap.size, 0, none⟩) 1 (by unfold maxLen; simp) (by rw [← hW1]; exact ints_one w (p : Int))
  rw [okN_nat hpl] at hhv
  have HHV := Lib.hid hhv; have HW1 := Lib.hid hW1; have HB1 := Lib.hid hb1
  clear hhv hW1 hb1 h1 hpl h
  go_enter Try.func60, Try.ntmps60
  go_upto_region 1 with fail
  go_wp2_with fail
  rw [HW1.out]
  refine HHV.out.mono ?_
  rintro e w2 ⟨rfl, rfl⟩
  go_wp2_with fail
  go_ret
  exact ⟨rfl, HB1.out⟩
end
end Go.Proofs.Yteolbbgnkbcfmaa
