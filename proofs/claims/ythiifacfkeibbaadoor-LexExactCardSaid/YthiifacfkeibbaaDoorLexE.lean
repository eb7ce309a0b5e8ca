/- Walks: the page's own answers: blank, skip, end. -/
import Derived.Test.YthiifacfkeibbaaDoorBytes
import Derived.Test.YthiifacfkeibbaaDoorRefE
import Derived.Deep.DeepCutAuto
import Derived.Deep.CutRange
namespace Go.Proofs.YthiifacfkeibbaaDoor
open Go Go.RowKit
open Go.Proofs

set_option maxHeartbeats 400000 in
theorem rblank_any (c : Int) (w : World) :
    Calls Tryd.prog 35 #[.int .u8 c] w fun e w' => e = .returned (.bool (Lx.blankI c)) ∧ w = w' := by
  cases h1 : (c == 9) <;> cases h2 : (c == 10) <;> cases h3 : (c == 13) <;> cases h4 : (c == 32) <;> go_enter Tryd.func35, Tryd.ntmps35 <;> go_wp2 <;> go_ret <;> exact ⟨ret_bool (by simp [Lx.blankI, h1, h2, h3, h4]), rfl⟩

theorem skip_t10 (r : List UInt8) : Lx.skipB true (10 :: r) = Lx.skip (10 :: r) := by
  simp [Lx.skip, Lx.skipB, show Lx.blank 10 = true from by decide]
theorem skip_tne (c : UInt8) (r : List UInt8) (h : c ≠ 10) : Lx.skipB true (c :: r) = 1 + Lx.skipB true r := by
  simp only [Lx.skipB]; rw [if_neg h]
theorem skip_f35 (r : List UInt8) : Lx.skip (35 :: r) = Lx.skipB true (35 :: r) := by
  unfold Lx.skip; simp only [Lx.skipB]; rw [if_neg (by decide), if_pos trivial, if_neg (by decide)]

set_option maxHeartbeats 2000000 in
theorem rskip_any (a : Option Addr) (cap : Nat) (l : List UInt8) (hl : l.length ≤ 100000) (i : Nat) (hi : i ≤ l.length) (w : World) (hh : Holds w a l) :
    Calls Tryd.prog 19 #[.slice a l.length cap, .int .i64 (i : Int)] w fun e w' => e = .returned (.int .i64 ((i + Lx.skip (l.drop i) : Nat) : Int)) ∧ w = w' := by
  by_cases h0 : l = []
  · have hz : l.length ≤ 0 := by rw [h0]; simp
    have hi0 : i = 0 := by omega
    subst hi0
    have hs : Lx.skip l = 0 := by rw [h0]; rfl
    have HS := Lib.hid hs; clear hs h0
    go_enter Tryd.func19, Tryd.ntmps19
    go_wp2_with fail
    go_loop [1] (fun v => v = .int .i64 0) (fun _ => 0)
    case atStart => rfl
    case round =>
      subst hrel
      go_wp2_with fail
      go_ret
      exact ⟨ret_int (by rw [HS.out]; rfl), rfl⟩
  · rcases hh with hn | ⟨b, off, rfl, _, hc⟩
    · exact absurd hn h0
    obtain ⟨T, hT⟩ : ∃ T, T = i + Lx.skip (l.drop i) := ⟨_, rfl⟩
    rw [← hT]
    have HC := Lib.hid hc; have HT := Lib.hid hT
    clear hc hT h0
    go_enter Tryd.func19, Tryd.ntmps19
    go_wp2_with fail
    go_loop [1] (fun v => ∃ k : Nat, k ≤ l.length ∧ v = .int .i64 k ∧ T = k + Lx.skip (l.drop k)) (fun v => l.length - (intOf v).toNat)
    case atStart => exact ⟨i, hi, rfl, HT.out⟩
    case round =>
      obtain ⟨k, hk, rfl, hs⟩ := hrel
      have HS := Lib.hid hs; clear hs
      by_cases hlt : k < l.length
      · have hcell := HC.out k hlt
        have hd : l.drop k = l[k] :: l.drop (k + 1) := List.drop_eq_getElem_cons hlt
        have HD := Lib.hid hd; clear hd
        by_cases hb : Lx.blank l[k] = true
        · have hs2 : T = (k + 1) + Lx.skip (l.drop (k + 1)) := by rw [HS.out, HD.out, skip_blank _ _ hb]; omega
          have h35 : ((l[k].toNat : Int) == 35) = false := by
            rw [beq_eq_false_iff_ne]; intro e
            have : l[k] = 35 := UInt8.toNat_inj.1 (by have : (35 : UInt8).toNat = 35 := rfl; omega)
            rw [this] at hb; exact absurd hb (by decide)
          have hb' : Lx.blankI (l[k].toNat : Int) = true := hb
          have HS2 := Lib.hid hs2; clear hs2 hb
          generalize (l[k].toNat : Int) = c at *
          go_wp2_with (go_at_call 35; refine (rblank_any _ _).mono ?_; rintro e w' ⟨rfl, rfl⟩)
          go_round
          case rel => exact ⟨k + 1, by omega, by go_num, HS2.out⟩
          case measure => simp [intOf]; omega
        · have hb' : Lx.blankI (l[k].toNat : Int) = false := by simpa [Lx.blank] using hb
          by_cases h35 : l[k] = 35
          · have e35 : ((l[k].toNat : Int) == 35) = true := by rw [h35]; decide
            have hs2 : T = k + Lx.skipB true (l.drop k) := by rw [HS.out, HD.out, h35, skip_f35]
            have H35 := Lib.hid h35
            have HS2 := Lib.hid hs2; clear hs2 hb h35
            go_wp2_with (go_at_call 35; refine (rblank_any _ _).mono ?_; rintro e w' ⟨rfl, rfl⟩)
            go_loop [1] (fun v => ∃ q : Nat, k ≤ q ∧ q ≤ l.length ∧ v = .int .i64 q ∧ T = q + Lx.skipB true (l.drop q)) (fun v => l.length - (intOf v).toNat)
            case atStart => exact ⟨k, Nat.le_refl _, by omega, rfl, HS2.out⟩
            case round =>
              obtain ⟨q, hkq, hq, rfl, hsq⟩ := hrel
              have HSQ := Lib.hid hsq; clear hsq
              by_cases hqlt : q < l.length
              · have hcq := HC.out q hqlt
                have hdq : l.drop q = l[q] :: l.drop (q + 1) := List.drop_eq_getElem_cons hqlt
                by_cases h10 : l[q] = 10
                · have e10 : ((l[q].toNat : Int) != 10) = false := by rw [h10]; decide
                  have hne : k ≠ q := by
                    rintro rfl
                    have := H35.out
                    rw [h10] at this; exact absurd this (by decide)
                  have hfin : T = q + Lx.skip (l.drop q) := by rw [HSQ.out, hdq, h10, skip_t10]
                  have HF := Lib.hid hfin; clear hfin hdq h10
                  generalize (l[q].toNat : Int) = d at *
                  go_wp2_with fail
                  go_round
                  case rel => exact ⟨q, by omega, rfl, HF.out⟩
                  case measure => simp [intOf]; omega
                · have e10 : ((l[q].toNat : Int) != 10) = true := by
                    rw [bne_iff_ne]; intro e
                    exact h10 (UInt8.toNat_inj.1 (by have : (10 : UInt8).toNat = 10 := rfl; omega))
                  have hst : T = (q + 1) + Lx.skipB true (l.drop (q + 1)) := by rw [HSQ.out, hdq, skip_tne _ _ h10]; omega
                  have HST := Lib.hid hst; clear hst hdq h10
                  generalize (l[q].toNat : Int) = d at *
                  go_wp2_with fail
                  go_round
                  case rel => exact ⟨q + 1, by omega, by omega, by go_num, HST.out⟩
                  case measure => simp [intOf]; omega
              · have hfin : T = q + Lx.skip (l.drop q) := by rw [HSQ.out, List.drop_of_length_le (by omega)]; rfl
                have HF := Lib.hid hfin; clear hfin
                go_wp2_with fail
                go_round
                case rel => exact ⟨q, by omega, rfl, HF.out⟩
                case measure => simp [intOf]; omega
          · have e35 : ((l[k].toNat : Int) == 35) = false := by
              rw [beq_eq_false_iff_ne]; intro e
              exact h35 (UInt8.toNat_inj.1 (by have : (35 : UInt8).toNat = 35 := rfl; omega))
            have hs2 : T = k := by rw [HS.out, HD.out, Lx.skip_none (by simpa using hb) h35]; omega
            have HS2 := Lib.hid hs2; clear hs2 hb h35
            generalize (l[k].toNat : Int) = c at *
            go_wp2_with (go_at_call 35; refine (rblank_any _ _).mono ?_; rintro e w' ⟨rfl, rfl⟩)
            go_ret
            exact ⟨ret_int (by rw [HS2.out]), rfl⟩
      · have hs2 : T = k := by rw [HS.out, List.drop_of_length_le (by omega)]; rfl
        have HS2 := Lib.hid hs2; clear hs2
        go_wp2_with fail
        go_ret
        exact ⟨ret_int (by rw [HS2.out]), rfl⟩

/-! ### end -/
/-- The length of what stands at the beginning, by its first byte alone. -/
def span (c : UInt8) (r : List UInt8) : Option Nat :=
  if Wd.low c then some (1 + (r.takeWhile Wd.part).length)
  else if Lx.dig c || c == 126 then some (1 + (r.takeWhile Lx.dig).length)
  else if c == 34 then (if (r.takeWhile Lx.notQ).length < r.length then some ((r.takeWhile Lx.notQ).length + 2) else none)
  else if Lx.long c (r.getD 0 0) then some 2 else if Lx.shorts.contains c then some 1 else none

theorem tw_T (p : UInt8 → Bool) (l : List UInt8) (k T : Nat) (h : k < l.length) (hp : p l[k] = true) (hT : T = k + ((l.drop k).takeWhile p).length) : T = (k + 1) + ((l.drop (k + 1)).takeWhile p).length :=
  tw_step p l k h hp T hT

set_option maxHeartbeats 1000000 in
theorem end_word (b off cap : Nat) (l : List UInt8) (hl : l.length ≤ 100000) (i : Nat) (hi : i < l.length) (w : World) (hc : ∀ i (h : i < l.length), w.cell? ⟨b, off + i, none⟩ = some (.int .u8 (l[i].toNat : Int))) (hw : Wd.lowI (l[i].toNat : Int) = true) :
    Calls Tryd.prog 20 #[.slice (some ⟨b, off, none⟩) l.length cap, .int .i64 (i : Int)] w fun e w' => e = .returned (.int .i64 ((i + (1 + ((l.drop (i + 1)).takeWhile Wd.part).length) : Nat) : Int)) ∧ w = w' := by
  have hcell := hc i hi
  obtain ⟨T, hT⟩ : ∃ T, T = (i + 1) + ((l.drop (i + 1)).takeWhile Wd.part).length := ⟨_, rfl⟩
  rw [show i + (1 + ((l.drop (i + 1)).takeWhile Wd.part).length) = T from by omega]
  have HC := Lib.hid hc; have HT := Lib.hid hT
  clear hc hT
  generalize (l[i].toNat : Int) = c at *
  go_enter Tryd.func20, Tryd.ntmps20
  go_wp2_with (go_at_call 24; refine (rlower_any _ _).mono ?_; rintro e w' ⟨rfl, rfl⟩)
  go_loop [6] (fun v => ∃ k : Nat, k ≤ l.length ∧ v = .int .i64 k ∧ T = k + ((l.drop k).takeWhile Wd.part).length) (fun v => l.length - (intOf v).toNat)
  case atStart => exact ⟨i + 1, by omega, by go_num, HT.out⟩
  case round =>
    obtain ⟨k, hk, rfl, hs⟩ := hrel
    have HS := Lib.hid hs; clear hs
    by_cases hlt : k < l.length
    · have hck := HC.out k hlt
      cases hq : Wd.partI ((l[k]).toNat : Int)
      · have hn := tw_stop Wd.part l k hlt hq T HS.out
        have HF := Lib.hid hn; clear hn
        generalize ((l[k]).toNat : Int) = d at *
        go_wp2_with (go_at_call 25; refine (rpart_any _ _).mono ?_; rintro e w' ⟨rfl, rfl⟩)
        go_ret
        exact ⟨ret_int (by rw [HF.out]), rfl⟩
      · have hn := tw_step Wd.part l k hlt hq T HS.out
        have HF := Lib.hid hn; clear hn
        generalize ((l[k]).toNat : Int) = d at *
        go_wp2_with (go_at_call 25; refine (rpart_any _ _).mono ?_; rintro e w' ⟨rfl, rfl⟩)
        go_round
        case rel => exact ⟨k + 1, by omega, by go_num, HF.out⟩
        case measure => simp [intOf]; omega
    · have hn := tw_end Wd.part l k (by omega) T HS.out
      have HF := Lib.hid hn; clear hn
      go_wp2_with fail
      go_ret
      exact ⟨ret_int (by rw [HF.out]), rfl⟩

set_option maxHeartbeats 1000000 in
theorem end_num (b off cap : Nat) (l : List UInt8) (hl : l.length ≤ 100000) (i : Nat) (hi : i < l.length) (w : World) (hc : ∀ i (h : i < l.length), w.cell? ⟨b, off + i, none⟩ = some (.int .u8 (l[i].toNat : Int))) (hw : Wd.lowI (l[i].toNat : Int) = false) (hd : (digI (l[i].toNat : Int) || (l[i].toNat : Int) == 126) = true) :
    Calls Tryd.prog 20 #[.slice (some ⟨b, off, none⟩) l.length cap, .int .i64 (i : Int)] w fun e w' => e = .returned (.int .i64 ((i + (1 + ((l.drop (i + 1)).takeWhile Lx.dig).length) : Nat) : Int)) ∧ w = w' := by
  have hcell := hc i hi
  obtain ⟨T, hT⟩ : ∃ T, T = (i + 1) + ((l.drop (i + 1)).takeWhile Lx.dig).length := ⟨_, rfl⟩
  rw [show i + (1 + ((l.drop (i + 1)).takeWhile Lx.dig).length) = T from by omega]
  have HC := Lib.hid hc; have HT := Lib.hid hT
  clear hc hT
  generalize (l[i].toNat : Int) = c at *
  cases hd1 : digI c <;> cases hd2 : (c == 126) <;> first | (rw [hd1, hd2] at hd; cases hd; done) | skip
  all_goals
    clear hd
    go_enter Tryd.func20, Tryd.ntmps20
    go_wp2_with (first | (go_at_call 24; refine (rlower_any _ _).mono ?_; rintro e w' ⟨rfl, rfl⟩) | (go_at_call 36; refine (rdigit_any _ _).mono ?_; rintro e w' ⟨rfl, rfl⟩))
    go_loop [6] (fun v => ∃ k : Nat, k ≤ l.length ∧ v = .int .i64 k ∧ T = k + ((l.drop k).takeWhile Lx.dig).length) (fun v => l.length - (intOf v).toNat)
    case atStart => exact ⟨i + 1, by omega, by go_num, HT.out⟩
    case round =>
      obtain ⟨k, hk, rfl, hs⟩ := hrel
      have HS := Lib.hid hs; clear hs
      by_cases hlt : k < l.length
      · have hck := HC.out k hlt
        cases hq : digI ((l[k]).toNat : Int)
        · have hn := tw_stop Lx.dig l k hlt hq T HS.out
          have HF := Lib.hid hn; clear hn
          generalize ((l[k]).toNat : Int) = d at *
          go_wp2_with (go_at_call 36; refine (rdigit_any _ _).mono ?_; rintro e w' ⟨rfl, rfl⟩)
          go_ret
          exact ⟨ret_int (by rw [HF.out]), rfl⟩
        · have hn := tw_step Lx.dig l k hlt hq T HS.out
          have HF := Lib.hid hn; clear hn
          generalize ((l[k]).toNat : Int) = d at *
          go_wp2_with (go_at_call 36; refine (rdigit_any _ _).mono ?_; rintro e w' ⟨rfl, rfl⟩)
          go_round
          case rel => exact ⟨k + 1, by omega, by go_num, HF.out⟩
          case measure => simp [intOf]; omega
      · have hn := tw_end Lx.dig l k (by omega) T HS.out
        have HF := Lib.hid hn; clear hn
        go_wp2_with fail
        go_ret
        exact ⟨ret_int (by rw [HF.out]), rfl⟩

set_option maxHeartbeats 1000000 in
theorem end_str (b off cap : Nat) (l : List UInt8) (hl : l.length ≤ 100000) (i : Nat) (hi : i < l.length) (w : World) (hc : ∀ i (h : i < l.length), w.cell? ⟨b, off + i, none⟩ = some (.int .u8 (l[i].toNat : Int))) (h34 : l[i] = 34) (R : Nat)
    (hR : R = if ((l.drop (i + 1)).takeWhile Lx.notQ).length < (l.drop (i + 1)).length then i + (((l.drop (i + 1)).takeWhile Lx.notQ).length + 2) else 0) :
    Calls Tryd.prog 20 #[.slice (some ⟨b, off, none⟩) l.length cap, .int .i64 (i : Int)] w fun e w' => e = .returned (.int .i64 (R : Int)) ∧ w = w' := by
  have hcell := hc i hi
  have c1 : Wd.lowI (l[i].toNat : Int) = false := by rw [h34]; decide
  have c2 : digI (l[i].toNat : Int) = false := by rw [h34]; decide
  have c3 : ((l[i].toNat : Int) == 126) = false := by rw [h34]; decide
  have c4 : ((l[i].toNat : Int) == 34) = true := by rw [h34]; decide
  obtain ⟨T, hT⟩ : ∃ T, T = (i + 1) + ((l.drop (i + 1)).takeWhile Lx.notQ).length := ⟨_, rfl⟩
  have hle := Lx.tw_len Lx.notQ (l.drop (i + 1))
  have hdl : (l.drop (i + 1)).length = l.length - (i + 1) := by simp
  have hR1 : T < l.length → R = T + 1 := fun h => by rw [hR, if_pos (by omega)]; omega
  have hR2 : l.length ≤ T → R = 0 := fun h => by rw [hR, if_neg (by omega)]
  have HC := Lib.hid hc; have HT := Lib.hid hT; have H1 := Lib.hid hR1; have H2 := Lib.hid hR2
  clear hc hT h34 hR hR1 hR2 hle hdl
  generalize (l[i].toNat : Int) = c at *
  go_enter Tryd.func20, Tryd.ntmps20
  go_wp2_with (first | (go_at_call 24; refine (rlower_any _ _).mono ?_; rintro e w' ⟨rfl, rfl⟩) | (go_at_call 36; refine (rdigit_any _ _).mono ?_; rintro e w' ⟨rfl, rfl⟩))
  go_loop [6] (fun v => ∃ k : Nat, k ≤ l.length ∧ v = .int .i64 k ∧ T = k + ((l.drop k).takeWhile Lx.notQ).length) (fun v => l.length - (intOf v).toNat)
  case atStart => exact ⟨i + 1, by omega, by go_num, HT.out⟩
  case round =>
    obtain ⟨k, hk, rfl, hs⟩ := hrel
    have HS := Lib.hid hs; clear hs
    by_cases hlt : k < l.length
    · have hck := HC.out k hlt
      cases hq : ((l[k].toNat : Int) == 34)
      · have hq2 : ((l[k].toNat : Int) != 34) = true := by rw [bne, hq]; rfl
        have hn := tw_step Lx.notQ l k hlt (by simp [Lx.notQ, hq]) T HS.out
        have HF := Lib.hid hn; clear hn
        generalize ((l[k]).toNat : Int) = d at *
        go_wp2_with fail
        go_round
        case rel => exact ⟨k + 1, by omega, by go_num, HF.out⟩
        case measure => simp [intOf]; omega
      · have hq2 : ((l[k].toNat : Int) != 34) = false := by rw [bne, hq]; rfl
        have hn := tw_stop Lx.notQ l k hlt (by simp [Lx.notQ, hq]) T HS.out
        have hr := H1.out (by omega)
        have hke : ((k : Int) == (l.length : Int)) = false := by rw [beq_eq_false_iff_ne]; omega
        have hke' : (k == l.length) = false := by rw [beq_eq_false_iff_ne]; omega
        have HF := Lib.hid hn; have HR := Lib.hid hr; clear hn hr
        generalize ((l[k]).toNat : Int) = d at *
        go_wp2_with fail
        go_ret
        exact ⟨ret_int (by rw [HR.out, HF.out]; go_num), rfl⟩
    · have hn := tw_end Lx.notQ l k (by omega) T HS.out
      have hr := H2.out (by omega)
      have hke : ((k : Int) == (l.length : Int)) = true := by rw [beq_iff_eq]; omega
      have hke' : (k == l.length) = true := by rw [beq_iff_eq]; omega
      have HR := Lib.hid hr; clear hn hr
      go_wp2_with fail
      go_ret
      exact ⟨ret_int (by rw [HR.out]; rfl), rfl⟩
end Go.Proofs.YthiifacfkeibbaaDoor
