/- store.Make. -/
import Derived.Test.YtaaapdfdedknfaaStG
namespace Go.Proofs.Ytaaapdfdedknfaa
open Go Go.RowKit
open Tp (T)
open Sg (Of Rt)
theorem _root_.Go.RowKit.Below.tr {w w1 w2 : World} {n : Nat} (h : Below n w w1) (h2 : Below w1.heap.size w1 w2) (hn : n ≤ w.heap.size) : Below n w w2 := h.trans (h2.mono (Nat.le_trans hn h.size))
section
variable {B s g cap : Nat} {L C K : Int} {w : World} {H : List SNd}
def kidL (k a b : Int) : List Int := [a, b].take (ar k)
theorem kidL_len (k a b : Int) : (kidL k a b).length = ar k := by unfold kidL; rw [List.length_take]; have := ar_le k; simp; omega
theorem kidL_at {W : World} {bx : Nat} {ty : TypeId} {k l a b u m : Int} (h : W.heap[bx]? = some (.cells #[.int .i64 k, .int .i64 l, .int .i64 a, .int .i64 b, .int .i64 u, .int .i64 m] ty)) (q : Int) : IntsAt W (kidL q a b) (some ⟨bx, 2, none⟩) := fun i hi => by
  refine ⟨bx, 2, rfl, ?_⟩
  have h2 : i < 2 := by rw [kidL_len] at hi; have := ar_le q; omega
  match i, h2 with
  | 0, _ =>
    have : (kidL q a b)[0] = a := by simp [kidL]
    rw [this]; exact cell_box h rfl rfl
  | 1, _ =>
    have : (kidL q a b)[1] = b := by simp [kidL]
    rw [this]; exact cell_box h rfl rfl
/-- What Make hands back: m kids, all of them nodes? -/
def MkP (B s g : Nat) (L C K : Int) (H : List SNd) (c : Sg.Cr) (m : Nat) (ok : Bool) (w : World) (e : Ending) (w' : World) : Prop :=
  if m = 0 ∨ ok = false then e = .returned (.tuple #[.int .i64 0, .int .i64 1]) ∧ Below w.heap.size w w'
  else if C = L then e = .returned (.tuple #[.int .i64 0, .int .i64 7]) ∧ Below w.heap.size w w'
  else e = .returned (.tuple #[.int .i64 (H.length : Int), .int .i64 0]) ∧ AddP B s g L C K H c w w'
set_option maxRecDepth 100000 in
set_option maxHeartbeats 2000000 in
/-- What Make does up to its guard, and what follows. -/
theorem make12_any (h : SV B s g cap L C K w H) (hB : Bds L C H) (k a b : Int) : 
    Calls Try.prog 63 #[.pointer (some ⟨s, 0, none⟩), .int .i64 k, .int .i64 a, .int .i64 b] w (MkP B s g L C K H ⟨k, 0, a, b, 0⟩ (ar k) ((kidL k a b).all (okN H.length)) w) := by
  obtain ⟨W1, hW1⟩ : ∃ W, w.alloc (.cells #[.int .i64 k, .int .i64 0, .int .i64 a, .int .i64 b, .int .i64 0, .int .i64 0] 92) = W := ⟨_, rfl⟩
  have hb1 : Below w.heap.size w W1 := by rw [← hW1]; exact (Below.refl _ _).alloc (Nat.le_refl _) _
  have hx1 : W1.heap[w.heap.size]? = some (.cells #[.int .i64 k, .int .i64 0, .int .i64 a, .int .i64 b, .int .i64 0, .int .i64 0] 92) := by rw [← hW1]; exact World.alloc_heap_new w _
  have h1 := h.below hb1
  have hks := kids_slice w.heap.size 2 (ar k) (ar_le k)
  have har := arity12_any k
  have hhv := have12_any h1 (kidL k a b) (some ⟨w.heap.size, 2, none⟩) 2 (by rw [kidL_len]; have := ar_le k; unfold maxLen; omega) (kidL_at hx1 k)
  rw [kidL_len] at hhv
  have hle := ar_le k
  obtain ⟨m, hm⟩ : ∃ m, ar k = m := ⟨_, rfl⟩
  obtain ⟨ok, hok⟩ : ∃ z, (kidL k a b).all (okN H.length) = z := ⟨_, rfl⟩
  simp only [hm] at hks har hhv hle ⊢
  simp only [hok] at hhv ⊢
  have HAR := Lib.hid har; have HHV := Lib.hid hhv; have HW1 := Lib.hid hW1; have HB1 := Lib.hid hb1; have HX1 := Lib.hid hx1; have HSV := Lib.hid h1; have HBD := Lib.hid hB
  clear har hhv hW1 hb1 hx1 h1 h hB hok hm
  go_enter Try.func63, Try.ntmps63
  go_upto_region 2 with fail
  rw [HW1.out]
  go_wp2_with fail
  refine (HAR.out _).mono ?_
  rintro e w2 ⟨rfl, rfl⟩
  by_cases hm0 : m = 0
  · subst hm0
    go_wp2_with fail
    exact bodyPost_ret (v := .tuple #[.int .i64 0, .int .i64 1]) (by simp [results, Try.f63, go_sem]) rfl (by unfold MkP; rw [if_pos (.inl rfl)]; exact ⟨rfl, HB1.out⟩)
  · have hmi : ((m : Int) == 0) = false := by simp [hm0]
    have hmj : ¬ (m : Int) = 0 := by omega
    go_upto_region 3 with fail
    go_wp2_with fail
    refine HHV.out.mono ?_
    rintro e w3 ⟨rfl, rfl⟩
    cases ok with
    | false =>
      go_wp2_with fail
      exact bodyPost_ret (v := .tuple #[.int .i64 0, .int .i64 1]) (by simp [results, Try.f63, go_sem]) rfl (by unfold MkP; rw [if_pos (.inr rfl)]; exact ⟨rfl, HB1.out⟩)
    | true =>
      have hr := room12_any HSV.out
      obtain ⟨b0, b1, b2, b3⟩ := HBD.out
      have hw : wrap64 (L - C) = L - C := by unfold wrap64; omega
      rw [hw] at hr
      by_cases hC : C = L
      · rw [show L - C = 0 by omega] at hr
        have HR := Lib.hid hr
        clear hr hw b0 b1 b2 b3
        go_wp2_with fail
        refine HR.out.mono ?_
        rintro e w4 ⟨rfl, hb⟩
        have HB4 := Lib.hid (HB1.out.tr hb (Nat.le_refl _)); have HCC := Lib.hid hC
        clear hb hC
        go_wp2_with fail
        exact bodyPost_ret (v := .tuple #[.int .i64 0, .int .i64 7]) (by simp [results, Try.f63, go_sem]) rfl (by unfold MkP; rw [if_neg (by simp [hm0]), if_pos HCC.out]; exact ⟨rfl, HB4.out⟩)
      · have hrn : (L - C == 0) = false := by simp; omega
        have had := fun x (hx : SV B s g cap L C K x H) => add12_any hx ⟨k, 0, a, b, 0⟩ 0 (by omega) ⟨b0, by omega⟩
        obtain ⟨q, hq⟩ : ∃ q, L - C = q := ⟨_, rfl⟩
        rw [hq] at hr hrn
        have HR := Lib.hid hr; have HAD := Lib.hid had; have HCC := Lib.hid hC
        clear hr had hq hw b0 b1 b2 b3 hC
        go_upto_region 5 with fail
        go_wp2_with fail
        refine HR.out.mono ?_
        rintro e w4 ⟨rfl, hb⟩
        have HB4 := Lib.hid (HB1.out.tr hb (Nat.le_refl _)); have HX4 := Lib.hid ((hb.block _ (Array.getElem?_eq_some_iff.1 HX1.out).1).trans HX1.out); have HSV4 := Lib.hid (HSV.out.below hb)
        clear hb
        have x0 : w4.cell? ⟨w.heap.size, 0, none⟩ = some (.int .i64 k) := cell_box HX4.out rfl rfl
        have x1 : w4.cell? ⟨w.heap.size, 1, none⟩ = some (.int .i64 0) := cell_box HX4.out rfl rfl
        have x2 : w4.cell? ⟨w.heap.size, 2, none⟩ = some (.int .i64 a) := cell_box HX4.out rfl rfl
        have x3 : w4.cell? ⟨w.heap.size, 3, none⟩ = some (.int .i64 b) := cell_box HX4.out rfl rfl
        have x4 : w4.cell? ⟨w.heap.size, 4, none⟩ = some (.int .i64 0) := cell_box HX4.out rfl rfl
        have x5 : w4.cell? ⟨w.heap.size, 5, none⟩ = some (.int .i64 0) := cell_box HX4.out rfl rfl
        go_upto_region 7 with fail
        go_wp2_with fail
        refine (HAD.out _ HSV4.out).mono ?_
        clear x0 x1 x2 x3 x4 x5
        rintro e w5 ⟨rfl, hp⟩
        have HP := Lib.hid hp
        clear hp
        go_wp2_with fail
        exact bodyPost_ret (v := .tuple #[.int .i64 (H.length : Int), .int .i64 0]) (by simp [results, Try.f63, go_sem]) rfl (by unfold MkP; rw [if_neg (by simp [hm0]), if_neg HCC.out]; exact ⟨rfl, HP.out.below HB4.out⟩)
end
end Go.Proofs.Ytaaapdfdedknfaa
