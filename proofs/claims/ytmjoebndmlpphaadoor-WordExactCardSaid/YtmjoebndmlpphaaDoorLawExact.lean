/- The walk of the law that holds package word against the page. -/
import Derived.Test.YtmjoebndmlpphaaDoorRefE
namespace Go.Proofs.YtmjoebndmlpphaaDoor
open Go Go.RowKit
open Go.Proofs

set_option maxRecDepth 100000 in
set_option maxHeartbeats 2000000 in
theorem exact_walk (l : List UInt8) (n : Int) (hl : l.length ≤ 500) (PV PE QE UE : Int) (QV UV T : List UInt8) (kb nb : Bool)
    (P : ∀ w, Good w → Calls Tryd.prog 9 #[.string ⟨l.toArray⟩] w fun e w' => e = .returned (.tuple #[.int .i64 PV, .int .i64 PE]) ∧ Below w.heap.size w w')
    (RP : ∀ w, Calls Tryd.prog 10 #[.string ⟨l.toArray⟩] w fun e w' => e = .returned (.tuple #[.int .i64 PV, .int .i64 PE]) ∧ w = w')
    (Q : ∀ w, Calls Tryd.prog 11 #[.string ⟨l.toArray⟩] w fun e w' => e = .returned (.tuple #[.string ⟨QV.toArray⟩, .int .i64 QE]) ∧ Below w.heap.size w w')
    (RQ : ∀ w, Calls Tryd.prog 12 #[.string ⟨l.toArray⟩] w fun e w' => e = .returned (.tuple #[.string ⟨QV.toArray⟩, .int .i64 QE]) ∧ Below w.heap.size w w')
    (U : ∀ w, Calls Tryd.prog 13 #[.string ⟨l.toArray⟩] w fun e w' => e = .returned (.tuple #[.string ⟨UV.toArray⟩, .int .i64 UE]) ∧ Below w.heap.size w w')
    (RU : ∀ w, Calls Tryd.prog 14 #[.string ⟨l.toArray⟩] w fun e w' => e = .returned (.tuple #[.string ⟨UV.toArray⟩, .int .i64 UE]) ∧ Below w.heap.size w w')
    (K : ∀ w, Calls Tryd.prog 15 #[.string ⟨l.toArray⟩] w fun e w' => e = .returned (.bool kb) ∧ w = w')
    (RK : ∀ w, Calls Tryd.prog 16 #[.string ⟨l.toArray⟩] w fun e w' => e = .returned (.bool kb) ∧ w = w')
    (N : ∀ w, Calls Tryd.prog 17 #[.string ⟨l.toArray⟩] w fun e w' => e = .returned (.bool nb) ∧ w = w')
    (RN : ∀ w, Calls Tryd.prog 18 #[.string ⟨l.toArray⟩] w fun e w' => e = .returned (.bool nb) ∧ w = w')
    (M : ∀ w, Good w → Calls Tryd.prog 19 #[.int .i64 n] w fun e w' => e = .returned (.string ⟨T.toArray⟩) ∧ Below w.heap.size w w')
    (RM : ∀ w, Calls Tryd.prog 20 #[.int .i64 n] w fun e w' => e = .returned (.string ⟨T.toArray⟩) ∧ w = w')
    (w : World) (hg : Good w) :
    Calls Tryd.prog 3 #[.string ⟨l.toArray⟩, .int .i64 n] w fun e w' => e = .returned (.bool true) ∧ Below w.heap.size w w' := by
  have HG := Lib.hid hg
  have hP := Lib.hid P; have hRP := Lib.hid RP; have hQ := Lib.hid Q; have hRQ := Lib.hid RQ; have hU := Lib.hid U; have hRU := Lib.hid RU
  have hK := Lib.hid K; have hRK := Lib.hid RK; have hN := Lib.hid N; have hRN := Lib.hid RN; have hM := Lib.hid M; have hRM := Lib.hid RM
  clear hg P RP Q RQ U RU K RK N RN M RM
  go_enter Tryd.func3, Tryd.ntmps3
  go_wp2_with fail
  refine (hP.out _ HG.out).mono ?_
  rintro e w1 ⟨rfl, b1⟩
  go_wp2_with fail
  refine (hRP.out _).mono ?_
  rintro e w1' ⟨rfl, rfl⟩
  go_wp2_with fail
  refine (hQ.out _).mono ?_
  rintro e w2 ⟨rfl, b2⟩
  have c2 := b1.trans (b2.mono b1.size)
  clear b1 b2
  go_wp2_with fail
  refine (hRQ.out _).mono ?_
  rintro e w3 ⟨rfl, b3⟩
  have c3 := c2.trans (b3.mono c2.size)
  clear c2 b3
  go_wp2_with fail
  refine (hU.out _).mono ?_
  rintro e w4 ⟨rfl, b4⟩
  have c4 := c3.trans (b4.mono c3.size)
  clear c3 b4
  go_wp2_with fail
  refine (hRU.out _).mono ?_
  rintro e w5 ⟨rfl, b5⟩
  have c5 := c4.trans (b5.mono c4.size)
  have HG5 := Lib.hid (HG.out.below c5)
  clear c4 b5
  go_wp2_with fail
  refine (hK.out _).mono ?_
  rintro e w5' ⟨rfl, rfl⟩
  go_wp2_with fail
  refine (hRK.out _).mono ?_
  rintro e w5' ⟨rfl, rfl⟩
  go_wp2_with fail
  refine (hN.out _).mono ?_
  rintro e w5' ⟨rfl, rfl⟩
  go_wp2_with fail
  refine (hRN.out _).mono ?_
  rintro e w5' ⟨rfl, rfl⟩
  go_wp2_with fail
  refine (hM.out _ HG5.out).mono ?_
  rintro e w6 ⟨rfl, b6⟩
  have c6 := c5.trans (b6.mono c5.size)
  have HG6 := Lib.hid (HG.out.below c6)
  clear c5 b6 HG5
  go_wp2_with fail
  refine (hRM.out _).mono ?_
  rintro e w6' ⟨rfl, rfl⟩
  go_wp2_with (go_at_call 21; refine (wakes_any _ HG6.out).mono ?_; rintro e w7 ⟨rfl, b7⟩)
  go_ret
  exact ⟨rfl, c6.trans (b7.mono c6.size)⟩

set_option maxRecDepth 100000 in
set_option maxHeartbeats 1000000 in
theorem exact_big (s : ByteArray) (n : Int) (h : 500 < s.size) (w : World) :
    Calls Tryd.prog 3 #[.string s, .int .i64 n] w fun e w' => e = .returned (.bool true) ∧ Below w.heap.size w w' := by
  go_enter Tryd.func3, Tryd.ntmps3
  go_wp2_with fail
  go_ret
  exact ⟨rfl, Below.refl _ _⟩

theorem same_below {f : Nat} {a : Array Value} {w : World} {x : Ending} (h : Calls Tryd.prog f a w fun e w' => e = x ∧ w = w') : Calls Tryd.prog f a w fun e w' => e = x ∧ Below w.heap.size w w' :=
  h.mono fun e w' h => ⟨h.1, by rw [← h.2]; exact Below.refl _ _⟩

theorem walk_wordExact (s : ByteArray) (hs : s.size ≤ maxLen) (n : Int) (wn : (Lit.int .i64 n).wf = true) (w : World) (hg : Good w) :
    Calls Tryd.prog 3 #[.string s, .int .i64 n] w fun e w' => e = .returned (.bool true) ∧ Below w.heap.size w w' := by
  by_cases h1 : 500 < s.size
  · exact exact_big s n h1 w
  have hn := i64_of_wf wn
  obtain ⟨l, hl⟩ : ∃ l, s.data.toList = l := ⟨_, rfl⟩
  have hsz : l.length = s.size := by rw [← hl]; simp
  have e : s = ⟨l.toArray⟩ := by rw [← hl]; first | done | exact (Lib.mk_data s).symm
  subst e
  have el : ∀ r : List UInt8, ({ data := r.toArray } : ByteArray).data.toList = r := fun r => by simp
  have ez : ∀ r : List UInt8, ({ data := r.toArray } : ByteArray).size = r.length := fun r => by rw [Lib.size_eq, el]
  have hlen : l.length ≤ 500 := by omega
  -- the numbers
  obtain ⟨PV, PE, hP, hRP⟩ : ∃ PV PE : Int, (∀ w, Good w → Calls Tryd.prog 9 #[.string ⟨l.toArray⟩] w fun e w' => e = .returned (.tuple #[.int .i64 PV, .int .i64 PE]) ∧ Below w.heap.size w w') ∧
      (∀ w, Calls Tryd.prog 10 #[.string ⟨l.toArray⟩] w fun e w' => e = .returned (.tuple #[.int .i64 PV, .int .i64 PE]) ∧ w = w') := by
    by_cases hp : ∃ m, Wd.inI64 m ∧ Wd.num m = l
    · obtain ⟨m, hm, rfl⟩ := hp
      exact ⟨m, 0, fun w hg => parse_yes m hm w hg, fun w => rparse_yes m hm w⟩
    · have hno : ∀ m, Wd.inI64 m → Wd.num m ≠ l := fun m h1 h2 => hp ⟨m, h1, h2⟩
      exact ⟨0, 3, fun w hg => parse_no _ (by rw [ez]; omega) (by rw [el]; exact hno) w hg, fun w => rparse_no l hlen hno w⟩
  -- the literals
  obtain ⟨QV, QE, hQ, hRQ⟩ : ∃ (QV : List UInt8) (QE : Int), (∀ w, Calls Tryd.prog 11 #[.string ⟨l.toArray⟩] w fun e w' => e = .returned (.tuple #[.string ⟨QV.toArray⟩, .int .i64 QE]) ∧ Below w.heap.size w w') ∧
      (∀ w, Calls Tryd.prog 12 #[.string ⟨l.toArray⟩] w fun e w' => e = .returned (.tuple #[.string ⟨QV.toArray⟩, .int .i64 QE]) ∧ Below w.heap.size w w') := by
    by_cases hq : l.length ≤ 200
    · refine ⟨Wd.quote l, 0, fun w => ?_, fun w => rquote_any l hq w⟩
      have := quote_any ⟨l.toArray⟩ (by rw [ez]; exact hq) w
      rw [el] at this; exact this
    · exact ⟨[], 2, fun w => same_below (quote_big _ (by rw [ez]; omega) w), fun w => same_below (rquote_big l (by omega) (by omega) w)⟩
  obtain ⟨UV, UE, hU, hRU⟩ : ∃ (UV : List UInt8) (UE : Int), (∀ w, Calls Tryd.prog 13 #[.string ⟨l.toArray⟩] w fun e w' => e = .returned (.tuple #[.string ⟨UV.toArray⟩, .int .i64 UE]) ∧ Below w.heap.size w w') ∧
      (∀ w, Calls Tryd.prog 14 #[.string ⟨l.toArray⟩] w fun e w' => e = .returned (.tuple #[.string ⟨UV.toArray⟩, .int .i64 UE]) ∧ Below w.heap.size w w') := by
    by_cases hu : ∃ u : List UInt8, u.length ≤ 200 ∧ Wd.quote u = l
    · obtain ⟨u, hu1, rfl⟩ := hu
      exact ⟨u, 0, fun w => unq_yes _ u hu1 (el _) w, fun w => runq_yes u hu1 w⟩
    · have hno : ∀ t, t.length ≤ 200 → Wd.quote t ≠ l := fun t h1 h2 => hu ⟨t, h1, h2⟩
      exact ⟨[], 3, fun w => unq_no _ (by rw [ez]; omega) (by rw [el]; exact hno) w, fun w => runq_no l (by omega) hno w⟩
  have hk := key_any ⟨l.toArray⟩
  have hnm := name_any ⟨l.toArray⟩ hs
  rw [el] at hk hnm
  exact exact_walk l n hlen PV PE QE UE QV UV (Wd.num n) (Wd.key l) (Wd.name l) hP hRP hQ hRQ hU hRU hk (fun w => rkey_any l (by omega) w) hnm (fun w => rname_any l hlen w) (fun w hg => num_any n hn w hg) (fun w => rnum_any n hn w) w hg
end Go.Proofs.YtmjoebndmlpphaaDoor
