/- The law's count of types, patterns and expressions, plainly: what is not heavy has nothing too great. The law's count of a type, walked. -/
import Derived.Test.YtmmhpibkjdlkgaaGreatTcK
import Derived.Test.YtmmhpibkjdlkgaaGreatPure
import Derived.Test.YtmmhpibkjdlkgaaGreatTeA
import Derived.Test.YtmmhpibkjdlkgaaGreatTrA
namespace Go.Proofs.YtmmhpibkjdlkgaaGreat
open Go Go.RowKit
open Ex (E)

namespace Ex
mutual
def tc : Tp.T → Nat → Nat | .mk _ _ l, n => tcs l n
def tcs : List Tp.T → Nat → Nat | [], n => n | t :: r, n => if n ≤ 400 then tcs r (tc t (n + 1)) else n
end
def pcs : List Tr.P → Nat → Nat | [], n => n | p :: r, n => if n ≤ 400 then pcs r (Tr.cnt p n) else n
mutual
def ec : E → Nat → Nat | .mk _ _ _ nm ar _ s _ A B ps l, n => if 300 < s.length ∨ 300 < nm.length ∨ 300 < ar.length then 401 else ecs l (pcs ps (tc B (tc A (n + 1))))
def ecs : List E → Nat → Nat | [], n => n | e :: r, n => if n ≤ 400 then ecs r (ec e n) else n
end
/-- A law's count of some expressions. -/
def hv : List E → Nat → Nat | [], n => n | e :: r, n => hv r (ec e n)
mutual
theorem tc_le : ∀ (t : Tp.T) (n : Nat), tc t n ≤ max n 401
  | .mk _ _ l, n => by unfold tc; exact tcs_le l n
theorem tcs_le : ∀ (l : List Tp.T) (n : Nat), tcs l n ≤ max n 401
  | [], n => by unfold tcs; omega
  | t :: r, n => by
    unfold tcs
    split
    · have h1 := tc_le t (n + 1)
      have h2 := tcs_le r (tc t (n + 1))
      omega
    · omega
end
mutual
theorem tc_ge : ∀ (t : Tp.T) (n : Nat), n ≤ tc t n
  | .mk _ _ l, n => by unfold tc; exact tcs_ge l n
theorem tcs_ge : ∀ (l : List Tp.T) (n : Nat), n ≤ tcs l n
  | [], n => by unfold tcs; omega
  | t :: r, n => by
    unfold tcs
    split
    · have h1 := tc_ge t (n + 1)
      have h2 := tcs_ge r (tc t (n + 1))
      omega
    · omega
end
theorem pcs_le : ∀ (l : List Tr.P) (n : Nat), pcs l n ≤ max n 401
  | [], n => by unfold pcs; omega
  | p :: r, n => by
    unfold pcs
    split
    · have h1 := Tr.cnt_le p n
      have h2 := pcs_le r (Tr.cnt p n)
      omega
    · omega
mutual
theorem ec_le : ∀ (e : E) (n : Nat), ec e n ≤ max (n + 1) 401
  | .mk _ _ _ nm ar _ s _ A B ps l, n => by
    unfold ec
    split
    · omega
    · have h1 := tc_le A (n + 1)
      have h2 := tc_le B (tc A (n + 1))
      have h3 := pcs_le ps (tc B (tc A (n + 1)))
      have h4 := ecs_le l (pcs ps (tc B (tc A (n + 1))))
      omega
theorem ecs_le : ∀ (l : List E) (n : Nat), ecs l n ≤ max n 401
  | [], n => by unfold ecs; omega
  | e :: r, n => by
    unfold ecs
    split
    · have h1 := ec_le e n
      have h2 := ecs_le r (ec e n)
      omega
    · omega
end
theorem tcs_stop {l : List Tp.T} {n : Nat} (h : ¬ n ≤ 400) : tcs l n = n := by
  cases l with
  | nil => rfl
  | cons p r => unfold tcs; rw [if_neg h]
theorem tcs_drop {l : List Tp.T} {k n : Nat} (hk : k < l.length) (hn : n ≤ 400) : tcs (l.drop k) n = tcs (l.drop (k + 1)) (tc l[k] (n + 1)) := by
  rw [List.drop_eq_getElem_cons hk, tcs, if_pos hn]
theorem pcs_stop {l : List Tr.P} {n : Nat} (h : ¬ n ≤ 400) : pcs l n = n := by
  cases l with
  | nil => rfl
  | cons p r => unfold pcs; rw [if_neg h]
theorem pcs_drop {l : List Tr.P} {k n : Nat} (hk : k < l.length) (hn : n ≤ 400) : pcs (l.drop k) n = pcs (l.drop (k + 1)) (Tr.cnt l[k] n) := by
  rw [List.drop_eq_getElem_cons hk, pcs, if_pos hn]
theorem ecs_stop {l : List E} {n : Nat} (h : ¬ n ≤ 400) : ecs l n = n := by
  cases l with
  | nil => rfl
  | cons p r => unfold ecs; rw [if_neg h]
theorem ecs_drop {l : List E} {k n : Nat} (hk : k < l.length) (hn : n ≤ 400) : ecs (l.drop k) n = ecs (l.drop (k + 1)) (ec l[k] n) := by
  rw [List.drop_eq_getElem_cons hk, ecs, if_pos hn]
mutual
theorem tc_small : ∀ (t : Tp.T) (n : Nat), tc t n ≤ 400 → Tp.size t + n ≤ tc t n + 1
  | .mk k x l, n, h => by
    unfold tc at h ⊢
    have := tcs_small l n h
    simp only [Tp.size]
    omega
theorem tcs_small : ∀ (l : List Tp.T) (n : Nat), tcs l n ≤ 400 → Tp.sizes l + n ≤ tcs l n
  | [], n, _ => by simp [tcs, Tp.sizes]
  | t :: r, n, h => by
    unfold tcs at h ⊢
    split at h
    · rename_i hn
      rw [if_pos hn]
      have h2 := tcs_small r _ h
      have h4 := tcs_ge r (tc t (n + 1))
      have h5 := tc_small t (n + 1) (by omega)
      simp only [Tp.sizes]
      omega
    · omega
end
theorem pcs_small : ∀ (l : List Tr.P) (n : Nat), pcs l n ≤ 400 → n ≤ pcs l n ∧ ∀ p ∈ l, Tr.size p ≤ 401 ∧ Tr.short p = true
  | [], n, _ => ⟨by simp [pcs], fun p h => by cases h⟩
  | p :: r, n, h => by
    unfold pcs at h ⊢
    split at h
    · rename_i hn
      rw [if_pos hn]
      obtain ⟨h2, h3⟩ := pcs_small r _ h
      obtain ⟨h4, h5⟩ := Tr.cnt_small p n (by omega)
      have h6 := Tr.size_kids p
      refine ⟨by omega, fun q hq => ?_⟩
      rcases List.mem_cons.1 hq with rfl | hq
      · exact ⟨by omega, h4⟩
      · exact h3 q hq
    · omega
mutual
theorem ec_small : ∀ (e : E) (n d : Nat), ec e n ≤ 400 → Ex.size e + n ≤ ec e n ∧ ∀ k ∈ pre e d, Fine k.1
  | .mk k f t nm ar x s op A B ps l, n, d, h => by
    unfold ec at h ⊢
    split at h
    · omega
    · rename_i hc
      rw [if_neg hc]
      obtain ⟨h1, h2⟩ := ecs_small l _ (d + 1) h
      obtain ⟨h3, h4⟩ := pcs_small ps (tc B (tc A (n + 1))) (by omega)
      have h5 := tc_ge B (tc A (n + 1))
      have h6 := tc_small B (tc A (n + 1)) (by omega)
      have h7 := tc_small A (n + 1) (by omega)
      have h8 := tc_ge A (n + 1)
      refine ⟨by simp only [size]; omega, fun q hq => ?_⟩
      rw [pre] at hq
      rcases List.mem_cons.1 hq with rfl | hq
      · exact ⟨by show nm.length ≤ 300; omega, by show ar.length ≤ 300; omega, by show Tp.size A ≤ 10000; omega, by show Tp.size B ≤ 10000; omega, fun p hp => ⟨by have := (h4 p hp).1; omega, (h4 p hp).2⟩⟩
      · exact h2 q hq
theorem ecs_small : ∀ (l : List E) (n d : Nat), ecs l n ≤ 400 → Ex.sizes l + n ≤ ecs l n ∧ ∀ k ∈ pres l d, Fine k.1
  | [], n, d, _ => ⟨by simp [ecs, sizes], fun k h => by simp [pres] at h⟩
  | e :: r, n, d, h => by
    unfold ecs at h ⊢
    split at h
    · rename_i hn
      rw [if_pos hn]
      obtain ⟨h2, h3⟩ := ecs_small r _ d h
      obtain ⟨h4, h5⟩ := ec_small e n d (by omega)
      refine ⟨by simp only [sizes]; omega, fun q hq => ?_⟩
      rw [pres] at hq
      rcases List.mem_append.1 hq with hq | hq
      · exact h5 q hq
      · exact h3 q hq
    · omega
end
theorem hv_drop {l : List E} {k n : Nat} (hk : k < l.length) : hv (l.drop k) n = hv (l.drop (k + 1)) (ec l[k] n) := by
  rw [List.drop_eq_getElem_cons hk, hv]
end Ex
end Go.Proofs.YtmmhpibkjdlkgaaGreat
namespace Go.Proofs.YtmmhpibkjdlkgaaGreat
open Go Go.RowKit
open Tp (T)
open Ex (tc tcs)

set_option maxRecDepth 100000 in
set_option maxHeartbeats 4000000 in
theorem countType_any : ∀ (sz : Nat) (t : T) (a : Option Addr) (cap n : Nat) (w : World), Tp.size t ≤ sz → n ≤ 5000 → TyAt (LT w.heap.size) w t a cap →
    Calls Tryz.prog 31 #[tv t a cap, .int .i64 (n : Int)] w fun e w' => e = .returned (.int .i64 (tc t n : Int)) ∧ Below w.heap.size w w' := by
  intro sz
  induction sz with
  | zero => intro t a cap n w h; have := Tp.size_pos t; omega
  | succ sz ih =>
    intro t a cap n w hn hc hp
    obtain ⟨k, x, l⟩ := t
    obtain ⟨m, hm⟩ : ∃ m, l.length = m := ⟨_, rfl⟩
    have hm2 : (m : Int) ≤ 9223372036854775807 := by have h1 := hp.2.2.1; have h2 := hp.2.2.2.1; simp only [Tp.T.kids] at h1; unfold maxLen at h2; omega
    unfold tv
    simp only [Tp.T.kind, Tp.T.num, Tp.T.kids]
    rw [hm]
    have hr : tc (.mk k x l) n = tcs l n := by unfold tc; rfl
    rw [hr]
    have hszk := size_kids (.mk k x l)
    have HP := Lib.hid hp; have HN := Lib.hid hn; have HC := Lib.hid hc; have HM := Lib.hid hm; have IH := Lib.hid ih; have HSK := Lib.hid hszk
    clear hp hn hc hm ih hr hszk
    go_enter Tryz.func31, Tryz.ntmps31
    go_wp2_with fail
    go_loopg [1, 5] m (fun gk v1 v5 wr => ∃ (c i : Nat), v1 = .int .i64 (c : Int) ∧ v5 = .int .i64 (i : Int) ∧ i ≤ m ∧ c ≤ 5001 ∧ tcs (l.drop i) c = tcs l n ∧ Below (w.heap.size + 1) (w.alloc (.cells #[.int .i64 k, .int .i64 x, .slice a m cap] 26)) wr ∧ gk = m - i)
    case atStart => exact ⟨n, 0, rfl, rfl, Nat.zero_le _, by have := HC.out; omega, by rw [List.drop_zero], Below.refl _ _, rfl⟩
    case round =>
      obtain ⟨c, i, rfl, rfl, hi, hc, hcn, hb, rfl⟩ := hrel
      have c2 : wr.cell? ⟨w.heap.size, 2, none⟩ = some (.slice a m cap) := cell_box (World.alloc_heap_new w _) (hb.block w.heap.size (by omega)) rfl
      have hbw : Below w.heap.size w wr := ((Below.refl _ _).alloc (Nat.le_refl _) _).trans (hb.mono (by omega))
      have HB := Lib.hid hb; have HBW := Lib.hid hbw; have HCN := Lib.hid hcn; have HI := Lib.hid hi; have HCC := Lib.hid hc
      clear hb hbw hcn
      by_cases hlt : i < m
      · by_cases hle : c ≤ 400
        · have hle' : (c : Int) ≤ 400 := by omega
          have hil : i < l.length := by rw [HM.out]; exact hlt
          obtain ⟨b, o, xa, xc, rfl, hbn, hx, x0, x1, x2⟩ := kid_at HP.out HBW.out (Nat.le_refl _) (k := i) hil
          simp only [Tp.T.kids] at hx x0 x1 x2
          have hcall := IH.out l[i] xa xc (c + 1) wr (by have := HN.out; have := HSK.out; have := size_kid l i hil; simp only [Tp.T.kids] at *; omega) (by omega) hx
          have hst := Ex.tcs_drop (l := l) (k := i) (n := c) hil hle
          have hle2 := Ex.tc_le l[i] (c + 1)
          obtain ⟨q, hq⟩ : ∃ q, l[i] = q := ⟨_, rfl⟩
          rw [hq] at hcall hst hle2 x0 x1 x2
          obtain ⟨r, hr⟩ : ∃ r, tc q (c + 1) = r := ⟨_, rfl⟩
          rw [hr] at hcall hst hle2
          unfold tv at hcall
          have HCL := Lib.hid hcall; have HST := Lib.hid hst; have HL2 := Lib.hid hle2
          clear hcall hst hle2 hx hq hr
          rw [show ((c + 1 : Nat) : Int) = (c : Int) + 1 from by omega] at HCL
          go_wp2_with fail
          refine HCL.out.mono ?_
          rintro e w' ⟨rfl, hb'⟩
          go_wp2_with fail
          go_roundg (m - (i + 1))
          case measure => omega
          case rel => exact ⟨r, i + 1, rfl, by first | rfl | go_num, by omega, by have := HL2.out; omega, by rw [← HST.out]; exact HCN.out, HB.out.trans (hb'.mono (by have := HB.out.size; rw [World.size_alloc] at this; exact this)), rfl⟩
        · have hle' : ¬ (c : Int) ≤ 400 := by omega
          go_wp2_with fail
          go_ret
          refine ⟨?_, HBW.out⟩
          rw [← HCN.out, Ex.tcs_stop hle]
          rfl
      · obtain rfl : i = m := by omega
        go_wp2_with fail
        go_ret
        refine ⟨?_, HBW.out⟩
        rw [← HCN.out, List.drop_of_length_le (by rw [HM.out]; exact Nat.le_refl _)]
        rfl
end Go.Proofs.YtmmhpibkjdlkgaaGreat
