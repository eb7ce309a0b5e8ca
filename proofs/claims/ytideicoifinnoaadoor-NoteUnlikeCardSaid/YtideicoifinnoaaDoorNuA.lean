/- The law NoteUnlike: its walk. -/
import Derived.Test.YtideicoifinnoaaDoorNwA
import Derived.Test.YtideicoifinnoaaDoorNtS
import Derived.Test.YtideicoifinnoaaDoorNxA
import Derived.Test.YtideicoifinnoaaDoorTrC
import Derived.Test.YtideicoifinnoaaDoorTrF
namespace Go.Proofs.YtideicoifinnoaaDoor
open Go Go.RowKit
open Tp (T)

theorem textOf_same {t u : T} (ht : Tp.right t = true) (hu : Tp.right u = true) : decide (textOf t = textOf u) = Tp.same t u := by
  unfold textOf
  rw [if_pos ht, if_pos hu]
  by_cases h : t = u
  · subst h
    rw [Tp.same_refl]
    simp
  · have h1 : Tp.same t u = false := by
      cases hx : Tp.same t u with
      | false => rfl
      | true => exact absurd ((Tp.same_iff t u).1 hx) h
    rw [h1, decide_eq_false_iff_not]
    exact fun e => h (Nt.text_inj ht hu e)
set_option maxRecDepth 100000 in
set_option maxHeartbeats 4000000 in
theorem walk_noteUnlike (t : T) (a : Option Addr) (cap : Nat) (u : T) (b : Option Addr) (cap' : Nat) (w : World) (hg : Good w) (hty : TyAt (LT w.heap.size) w t a cap) (hty' : TyAt (LT w.heap.size) w u b cap') :
    Calls Tryd.prog 4 #[tv t a cap, tv u b cap'] w fun e w' => e = .returned (.bool true) ∧ Below w.heap.size w w' := by
  obtain ⟨k0, hk0⟩ : ∃ k0, t.kind = k0 := ⟨_, rfl⟩
  obtain ⟨n0, hn0⟩ : ∃ n0, t.num = n0 := ⟨_, rfl⟩
  obtain ⟨m0, hm0⟩ : ∃ m0, t.kids.length = m0 := ⟨_, rfl⟩
  obtain ⟨k9, hk9⟩ : ∃ k0, u.kind = k0 := ⟨_, rfl⟩
  obtain ⟨n9, hn9⟩ : ∃ n0, u.num = n0 := ⟨_, rfl⟩
  obtain ⟨m9, hm9⟩ : ∃ m0, u.kids.length = m0 := ⟨_, rfl⟩
  obtain ⟨hv, hhv⟩ : ∃ hv, decide (600 < Tp.sizes [t, u]) = hv := ⟨_, rfl⟩
  obtain ⟨W0, hW0⟩ : ∃ W, (w.alloc (.cells #[.int .i64 k0, .int .i64 n0, .slice a m0 cap] 24)).alloc (.cells #[.int .i64 k9, .int .i64 n9, .slice b m9 cap'] 24) = W := ⟨_, rfl⟩
  obtain ⟨hcell, htw, huw, hle, hbw⟩ := box_two hty hty' hW0
  have hgw := fun w1 (hb : Below (w.heap.size + 2) W0 w1) => hg.below (hbw w1 hb)
  have hhe := fun w1 (hb : Below (w.heap.size + 2) W0 w1) => heavy_any [t, u] (some ⟨w1.heap.size, 0, none⟩) 2 _ (by simp) (row_two (htw w1 hb) (huw w1 hb) hk0 hn0 hm0 hk9 hn9 hm9)
  have hsz : hv = false → Tp.size t ≤ 600 ∧ Tp.size u ≤ 600 := fun h => by
    rw [h, sizes_two] at hhv
    simp only [decide_eq_false_iff_not] at hhv
    refine ⟨?_, ?_⟩ <;> omega
  have hra := fun w1 (hb : Below (w.heap.size + 2) W0 w1) => rright_any _ t a cap w1 (Nat.le_refl _) (htw w1 hb)
  have hrb := fun w1 (hb : Below (w.heap.size + 2) W0 w1) => rright_any _ u b cap' w1 (Nat.le_refl _) (huw w1 hb)
  have hta := fun w1 (hb : Below (w.heap.size + 2) W0 w1) (h : Tp.size t ≤ 600) => text_any t a cap w1 (sz_le h) (htw w1 hb) (hgw w1 hb)
  have htb := fun w1 (hb : Below (w.heap.size + 2) W0 w1) (h : Tp.size u ≤ 600) => text_any u b cap' w1 (sz_le h) (huw w1 hb) (hgw w1 hb)
  have hsm := fun w1 (hb : Below (w.heap.size + 2) W0 w1) => ksame_any _ t u a cap b cap' w1 (Nat.le_refl _) (htw w1 hb) (huw w1 hb)
  have hwk := fun w1 (hb : Below (w.heap.size + 2) W0 w1) => wakes_any w1 (hgw w1 hb)
  obtain ⟨r1, hr1⟩ : ∃ x, Tp.right t = x := ⟨_, rfl⟩
  obtain ⟨r2, hr2⟩ : ∃ x, Tp.right u = x := ⟨_, rfl⟩
  obtain ⟨q, hq⟩ : ∃ x, Tp.same t u = x := ⟨_, rfl⟩
  obtain ⟨s1, hs1⟩ : ∃ x, textOf t = x := ⟨_, rfl⟩
  obtain ⟨s2, hs2⟩ : ∃ x, textOf u = x := ⟨_, rfl⟩
  have hst : r1 = true → r2 = true → decide (s1 = s2) = q := fun h1 h2 => by rw [← hq, ← hs1, ← hs2]; exact textOf_same (hr1.trans h1) (hr2.trans h2)
  rw [hr1] at hra
  rw [hr2] at hrb
  rw [hs1, hr1] at hta
  rw [hs2, hr2] at htb
  rw [hq] at hsm
  unfold tv at hra hrb hta htb hsm ⊢
  rw [hhv] at hhe
  simp only [hk0, hn0, hm0, hk9, hn9, hm9] at hra hrb hta htb hsm
  rw [hk0, hn0, hm0, hk9, hn9, hm9]
  have b0 := Below.refl (w.heap.size + 2) W0
  have HC := Lib.hid hcell; have HLE := Lib.hid hle; have HBW := Lib.hid hbw; have HHE := Lib.hid hhe; have HRA := Lib.hid hra; have HRB := Lib.hid hrb; have HTA := Lib.hid hta; have HTB := Lib.hid htb; have HSM := Lib.hid hsm; have HWK := Lib.hid hwk; have HST := Lib.hid hst; have HSZ := Lib.hid hsz; have HB0 := Lib.hid b0; have HW0 := Lib.hid hW0
  clear hcell hle hbw hhe hra hrb hta htb hsm hwk hst hsz b0 hW0 htw huw hgw hg hty hty' hk0 hn0 hm0 hk9 hn9 hm9 hhv hr1 hr2 hq hs1 hs2
  go_enter Tryd.func4, Tryd.ntmps4
  go_upto_region 1 with fail
  rw [HW0.out]
  obtain ⟨c0, c1, c2, c3, c4, c5⟩ := HC.out W0 HB0.out
  go_wp2_with fail
  refine (HHE.out _ HB0.out).mono ?_
  rintro e w1 ⟨rfl, hb1⟩
  have b1 := (HB0.out.alloc (HLE.out _ HB0.out) _).trans (hb1.mono (by rw [World.size_alloc]; have := HLE.out _ HB0.out; omega))
  have HB1 := Lib.hid b1
  clear b1 hb1 c0 c1 c2 c3 c4 c5
  cases hv with
  | true =>
    go_wp2_with fail
    go_ret
    exact ⟨rfl, HBW.out _ HB1.out⟩
  | false =>
    obtain ⟨z1, z2⟩ := HSZ.out rfl
    obtain ⟨c0, c1, c2, c3, c4, c5⟩ := HC.out _ HB1.out
    go_wp2_with fail
    refine (HRA.out _ HB1.out).mono ?_
    rintro e w2 ⟨rfl, hb2⟩
    have HB2 := Lib.hid (HB1.out.trans (hb2.mono (HLE.out _ HB1.out)))
    clear hb2 c0 c1 c2 c3 c4 c5
    cases r1 with
    | false =>
      go_wp2_with fail
      go_ret
      exact ⟨rfl, HBW.out _ HB2.out⟩
    | true =>
      obtain ⟨c0, c1, c2, c3, c4, c5⟩ := HC.out _ HB2.out
      go_wp2_with fail
      refine (HRB.out _ HB2.out).mono ?_
      rintro e w3 ⟨rfl, hb3⟩
      have HB3 := Lib.hid (HB2.out.trans (hb3.mono (HLE.out _ HB2.out)))
      clear hb3 c0 c1 c2 c3 c4 c5
      cases r2 with
      | false =>
        go_wp2_with fail
        go_ret
        exact ⟨rfl, HBW.out _ HB3.out⟩
      | true =>
        have hst := HST.out (by trivial) (by trivial)
        obtain ⟨c0, c1, c2, c3, c4, c5⟩ := HC.out _ HB3.out
        go_wp2_with fail
        refine (HTA.out _ HB3.out z1).mono ?_
        rintro e w4 ⟨rfl, hb4⟩
        have HB4 := Lib.hid (HB3.out.trans (hb4.mono (HLE.out _ HB3.out)))
        clear hb4 c0 c1 c2 c3 c4 c5
        obtain ⟨c0, c1, c2, c3, c4, c5⟩ := HC.out _ HB4.out
        go_wp2_with fail
        refine (HTB.out _ HB4.out z2).mono ?_
        rintro e w5 ⟨rfl, hb5⟩
        have HB5 := Lib.hid (HB4.out.trans (hb5.mono (HLE.out _ HB4.out)))
        clear hb5 c0 c1 c2 c3 c4 c5
        obtain ⟨c0, c1, c2, c3, c4, c5⟩ := HC.out _ HB5.out
        rw [show errOf true = 0 from rfl]
        go_wp2_with fail
        refine (HSM.out _ HB5.out).mono ?_
        rintro e w6 ⟨rfl, hb6⟩
        have HB6 := Lib.hid (HB5.out.trans (hb6.mono (HLE.out _ HB5.out)))
        clear hb6 c0 c1 c2 c3 c4 c5
        have hbe : (s1 == s2) = q := by rw [← hst]; cases hx : (s1 == s2) <;> simp_all
        clear hst
        cases q <;>
        · go_wp2_with fail
          refine (HWK.out _ HB6.out).mono ?_
          rintro e w7 ⟨rfl, hb7⟩
          have HB7 := Lib.hid (HB6.out.trans (hb7.mono (HLE.out _ HB6.out)))
          clear hb7
          go_wp2_with fail
          go_ret
          exact ⟨rfl, HBW.out _ HB7.out⟩
end Go.Proofs.YtideicoifinnoaaDoor
