/- store's small functions: leaf, arity, Count, room, have, Root. -/
import Derived.Test.YtaaapdfdedknfaaStB
namespace Go.Proofs.Ytaaapdfdedknfaa
open Go Go.RowKit
open Tp (T)
open Sg (Of Rt)
theorem wrapS {k : Nat} (h : k < maxLen) : wrap64 ((k : Int) + 1) = ((k + 1 : Nat) : Int) := by unfold maxLen at h; unfold wrap64; omega
theorem leaf12_any (k : Int) (w : World) : Calls Try.prog 62 #[.int .i64 k] w fun e w' => e = .returned (.int .i64 (wrap64 (k - 1))) ∧ w' = w := by
  go_enter Try.func62, Try.ntmps62
  go_wp2_with fail
  go_ret
  exact ⟨rfl, rfl⟩
def ar (k : Int) : Nat := if k = 7 ∨ k = 9 then 2 else if k = 8 then 1 else 0
theorem arity12_any (k : Int) (w : World) : Calls Try.prog 97 #[.int .i64 k] w fun e w' => e = .returned (.int .i64 (ar k : Int)) ∧ w' = w := by
  go_enter Try.func97, Try.ntmps97
  by_cases h7 : k = 7
  · subst h7
    go_wp2_with fail
    go_ret
    exact ⟨rfl, rfl⟩
  · by_cases h9 : k = 9
    · subst h9
      go_wp2_with fail
      go_ret
      exact ⟨rfl, rfl⟩
    · by_cases h8 : k = 8
      · subst h8
        go_wp2_with fail
        go_ret
        exact ⟨rfl, rfl⟩
      · have e7 : (k == 7) = false := by simp [h7]
        have e8 : (k == 8) = false := by simp [h8]
        have e9 : (k == 9) = false := by simp [h9]
        go_wp2_with fail
        go_ret
        exact ⟨by simp [ar, h7, h8, h9], rfl⟩
section
variable {B s g cap : Nat} {L C K : Int} {w : World} {H : List SNd}
theorem count12_any (h : SV B s g cap L C K w H) : Calls Try.prog 29 #[.pointer (some ⟨s, 0, none⟩)] w fun e w' => e = .returned (.int .i64 C) ∧ w' = w := by
  obtain ⟨c0, c1, c2, c3⟩ := h.sbox
  clear h
  go_enter Try.func29, Try.ntmps29
  go_wp2_with fail
  go_ret
  exact ⟨rfl, rfl⟩
theorem room12_any (h : SV B s g cap L C K w H) : Calls Try.prog 88 #[.pointer (some ⟨s, 0, none⟩)] w fun e w' => e = .returned (.int .i64 (wrap64 (L - C))) ∧ Below w.heap.size w w' := by
  obtain ⟨c0, c1, c2, c3⟩ := h.sbox
  clear h
  have hm : Try.prog.follows .mixedOrders = true := by kernel_rfl
  go_enter Try.func88, Try.ntmps88
  go_upto_region 1 with fail
  go_quiet (fail)
  go_wp2_with fail
  go_ret
  exact ⟨rfl, ⟨rfl, rfl, rfl, Nat.le_refl _, fun _ _ => rfl⟩⟩
/-- A row of numbers that lies somewhere. -/
def IntsAt (w : World) (l : List Int) (a : Option Addr) : Prop := ∀ i (h : i < l.length), ∃ b o, a = some ⟨b, o, none⟩ ∧ w.cell? ⟨b, o + i, none⟩ = some (.int .i64 l[i])
/-- Is it a node? -/
def okN (m : Nat) (x : Int) : Bool := decide (0 ≤ x) && decide (x < (m : Int))
set_option maxRecDepth 100000 in
theorem have12_any (h : SV B s g cap L C K w H) (l : List Int) (a : Option Addr) (c : Nat) (hl : l.length ≤ maxLen) (ha : IntsAt w l a) :
    Calls Try.prog 79 #[.pointer (some ⟨s, 0, none⟩), .slice a l.length c] w fun e w' => e = .returned (.bool (l.all (okN H.length))) ∧ w' = w := by
  obtain ⟨c0, c1, c2, c3⟩ := h.sbox
  obtain ⟨n, hn⟩ : ∃ n, l.length = n := ⟨_, rfl⟩
  obtain ⟨m, hm⟩ : ∃ n, H.length = n := ⟨_, rfl⟩
  rw [hm] at c2 ⊢
  rw [hn]
  have HN := Lib.hid hn; have HA := Lib.hid ha; have HL := Lib.hid hl
  clear h hn hm ha hl
  go_enter Try.func79, Try.ntmps79
  go_wp2_with fail
  go_loopg [9] n (fun gk v wr => ∃ k : Nat, k ≤ n ∧ v = .int .i64 (k : Int) ∧ wr = w ∧ (l.take k).all (okN m) = true ∧ gk = n - k)
  case atStart => exact ⟨0, Nat.zero_le _, rfl, rfl, rfl, rfl⟩
  case round =>
    obtain ⟨k, hk, rfl, rfl, hal, rfl⟩ := hrel
    have HAL := Lib.hid hal; clear hal
    by_cases hlt : k < n
    · have hkl : k < l.length := by rw [HN.out]; exact hlt
      obtain ⟨b, o, rfl, hc⟩ := HA.out k hkl
      obtain ⟨x, hx⟩ : ∃ x, l[k] = x := ⟨_, rfl⟩
      rw [hx] at hc
      obtain ⟨i1, i2⟩ := pt_int hlt
      have HX := Lib.hid hx; clear hx
      by_cases h0 : x < 0
      · have HF := Lib.hid (show l.all (okN m) = false from by
          rw [List.all_eq_false]; exact ⟨x, by rw [← HX.out]; exact List.getElem_mem hkl, by unfold okN; simp; omega⟩)
        go_wp2_with fail
        go_ret
        exact ⟨by rw [HF.out]; rfl, rfl⟩
      · by_cases h1 : (m : Int) ≤ x
        · have HF := Lib.hid (show l.all (okN m) = false from by
            rw [List.all_eq_false]; exact ⟨x, by rw [← HX.out]; exact List.getElem_mem hkl, by unfold okN; simp; omega⟩)
          go_wp2_with fail
          go_ret
          exact ⟨by rw [HF.out]; rfl, rfl⟩
        · have HT := Lib.hid (show (l.take (k + 1)).all (okN m) = true from by
            rw [List.take_succ_eq_append_getElem hkl, List.all_append, HAL.out, HX.out]; unfold okN; simp; omega)
          go_wp2_with fail
          go_roundg (n - (k + 1))
          case measure => omega
          case rel => exact ⟨k + 1, hlt, by rw [wrapS (k := k) (by have := HL.out; have := HN.out; omega)], rfl, HT.out, rfl⟩
    · obtain rfl : k = n := by omega
      go_wp2_with fail
      go_ret
      refine ⟨?_, rfl⟩
      have h := HAL.out
      rw [← HN.out, List.take_length] at h
      rw [h]; rfl
end
end Go.Proofs.Ytaaapdfdedknfaa
