/- Walks: the page's Vars; Heavy. -/
import Derived.Test.YtaaapdfdedknfaaTrE
import Derived.Test.YtaaapdfdedknfaaTyS
namespace Go.Proofs.Ytaaapdfdedknfaa
open Go Go.RowKit
open Tp (T)
def RowPost (L : List Int) (w : World) (e : Ending) (w' : World) : Prop := ∃ v, e = .returned v ∧ w'.ownsRow w.heap.size 3 1 v L.length (L.map (Value.int .i64)) ∧ Below w.heap.size w w'

set_option maxHeartbeats 1000000 in
theorem rvarsall_any (t : T) (a : Option Addr) (cap : Nat) (w : World) (hs : Tp.size t ≤ 10000) (hty : TyAt (LT w.heap.size) w t a cap) :
    Calls Try.prog 35 #[tv t a cap] w (RowPost (Tp.vars t []) w) := by
  have hcall := fun w' (hb : Below w.heap.size w w') => rvars_any w.heap.size (Tp.size t) t a cap none 0 [] w' (Nat.le_refl _) (by simpa using hs) hb.size (hty.below hb (fun _ h => h) (fun _ h => h)) (World.ownsRow_nil _ _ _ _)
  obtain ⟨k0, hk0⟩ : ∃ k0, t.kind = k0 := ⟨_, rfl⟩
  obtain ⟨n0, hn0⟩ : ∃ n0, t.num = n0 := ⟨_, rfl⟩
  obtain ⟨m0, hm0⟩ : ∃ m0, t.kids.length = m0 := ⟨_, rfl⟩
  unfold tv at hcall ⊢
  rw [hk0, hn0, hm0] at hcall ⊢
  have HC := Lib.hid hcall; clear hcall hk0 hn0 hm0 hty
  go_enter Try.func35, Try.ntmps35
  go_wp2_with (go_at_call 92; refine (HC.out _ ((Below.refl _ _).alloc (Nat.le_refl _) _)).mono ?_; rintro e w' hp; obtain ⟨v', rfl, hkp'⟩ := VPost.kept hp; have HKP := Lib.hid hkp'; clear hp hkp')
  go_ret
  refine ⟨v', rfl, HKP.out.own, ((Below.refl _ _).alloc (Nat.le_refl _) _).trans ⟨HKP.out.os, HKP.out.tape, HKP.out.output, HKP.out.size, fun k hk => HKP.out.block k (by rw [World.size_alloc]; omega) (fun e => by cases e)⟩⟩

set_option maxHeartbeats 1000000 in
theorem heavy_any (l : List T) (a : Option Addr) (cap : Nat) (w : World) (hl : l.length ≤ 10) (hk : KidsAt (LT w.heap.size) w l a) :
    Calls Try.prog 15 #[.slice a l.length cap] w fun e w' => e = .returned (.bool (decide (600 < Tp.sizes l))) ∧ Below w.heap.size w w' := by
  have HK := Lib.hid hk; clear hk
  obtain ⟨m, hm⟩ : ∃ m, l.length = m := ⟨_, rfl⟩
  obtain ⟨res, hres⟩ : ∃ res, decide (600 < Tp.sizes l) = res := ⟨_, rfl⟩
  rw [hm] at hl ⊢
  rw [hres]
  have HM := Lib.hid hm; have HRES := Lib.hid hres; clear hm hres
  go_enter Try.func15, Try.ntmps15
  go_wp2_with fail
  go_loopg [3, 4] m (fun gk v i wr => ∃ (k : Nat) (x : Int), k ≤ m ∧ i = .int .i64 k ∧ v = .int .i64 x ∧ ((Tp.sizes (l.take k) : Int) ≤ 600 → x = (Tp.sizes (l.take k) : Nat)) ∧ (600 < (Tp.sizes (l.take k) : Int) → 600 < x) ∧ 0 ≤ x ∧ x ≤ 600 + k ∧ Below w.heap.size w wr ∧ gk = m - k)
  case atStart => exact ⟨0, 0, Nat.zero_le _, rfl, rfl, by simp [Tp.sizes], by simp [Tp.sizes], Int.le_refl _, by omega, Below.refl _ _, rfl⟩
  case round =>
    obtain ⟨k, x, hk, rfl, rfl, q1, q2, q3, q4, hb, rfl⟩ := hrel
    have hx100 : x ≤ 100000 := by omega
    have hx0 : 0 ≤ x := by omega
    have HB := Lib.hid hb; have Q1 := Lib.hid q1; have Q2 := Lib.hid q2; have Q3 := Lib.hid q3; have Q4 := Lib.hid q4; clear hb q1 q2 q3 q4
    by_cases hlt : k < m
    · have hkl : k < l.length := by rw [HM.out]; exact hlt
      have hk2 : KidsAt (LT wr.heap.size) wr l a := HK.out.below HB.out (fun _ h => h) (fun b h => Nat.lt_of_lt_of_le h HB.out.size)
      obtain ⟨b, o, rfl, hbn, hN⟩ := hk2.first (by omega)
      obtain ⟨xa, xcap, hx, x0, x1, x2⟩ := (hN k hkl).ty
      have hst := sizes_take l k hkl
      have hcall := count_any (Tp.size l[k]) l[k] xa xcap x wr (Nat.le_refl _) hx0 (by omega) hx
      unfold tv at hcall
      obtain ⟨y, hy⟩ : ∃ x, l[k] = x := ⟨_, rfl⟩
      rw [hy] at x0 x1 x2 hcall hst
      obtain ⟨s2, hs2⟩ : ∃ s1, Tp.size y = s1 := ⟨_, rfl⟩
      rw [hs2] at hcall hst
      have HST := Lib.hid hst; have HC := Lib.hid hcall
      clear hst hcall hx hy hs2 hk2 hN hbn
      go_wp2_with (go_at_call 61; refine HC.out.mono ?_; rintro e w' ⟨z, rfl, z1, z2, z3, z4, hb'⟩; have Z1 := Lib.hid z1; have Z2 := Lib.hid z2; have Z3 := Lib.hid z3; have Z4 := Lib.hid z4; clear z1 z2 z3 z4)
      go_roundg (m - (k + 1))
      case measure => omega
      case rel =>
        have a1 := Q1.out; have a2 := Q2.out; have a3 := Q3.out; have a4 := Q4.out; have b1 := Z1.out; have b2 := Z2.out; have b3 := Z3.out; have b4 := Z4.out; have st := HST.out
        exact ⟨k + 1, z, by omega, by go_num, rfl, by rw [st]; omega, by rw [st]; omega, by omega, by omega, HB.out.trans (hb'.mono HB.out.size), rfl⟩
    · obtain rfl : k = m := by omega
      have htk : l.take k = l := List.take_of_length_le (by rw [HM.out]; exact Nat.le_refl _)
      have HTK := Lib.hid htk; clear htk
      go_wp2_with fail
      go_ret
      refine ⟨ret_boolT ?_, HB.out⟩
      have a1 := Q1.out; have a2 := Q2.out
      rw [HTK.out] at a1 a2
      rw [← HRES.out, Bool.eq_iff_iff, decide_eq_true_eq, decide_eq_true_eq]
      omega
end Go.Proofs.Ytaaapdfdedknfaa
