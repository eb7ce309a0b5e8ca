/- The walk of the law on numbers' texts. -/
import Derived.Test.YtmjoebndmlpphaaDoorWalkF
namespace Go.Proofs.YtmjoebndmlpphaaDoor
open Go Go.RowKit
open Go.Proofs

theorem idx (x : List UInt8) (k : Nat) (h : k < x.length) (w : World) : (Instr.index 9 (.string ⟨x.toArray⟩) (.int .i64 (k : Int))).run Tryd.prog w = .ok (.int .u8 (x[k].toNat : Int)) w := by
  simp [go_sem, h]
  rfl

set_option maxHeartbeats 2000000 in
theorem nums_walk (a b : Int) (x y : List UInt8) (q ng : Bool) (hq1 : (x == y) = q) (hq2 : (a == b) = q) (hx0 : 0 < x.length) (hlen : x.length ≤ 21) (hng : if ng then a < 0 else 0 ≤ a)
    (v0 : Int) (hv0 : ∀ w, (Instr.index 9 (.string ⟨x.toArray⟩) (.int .i64 0)).run Tryd.prog w = .ok (.int .u8 v0) w) (h126 : (v0 == 126) = ng)
    (hdig : ∀ k (h : k < x.length), (k = 0 ∧ ng = true ∧ x[k].toNat = 126) ∨ (48 ≤ x[k].toNat ∧ x[k].toNat ≤ 57))
    (NA : ∀ w, Good w → Calls Tryd.prog 19 #[.int .i64 a] w fun e w' => e = .returned (.string ⟨x.toArray⟩) ∧ Below w.heap.size w w')
    (NB : ∀ w, Good w → Calls Tryd.prog 19 #[.int .i64 b] w fun e w' => e = .returned (.string ⟨y.toArray⟩) ∧ Below w.heap.size w w')
    (PA : ∀ w, Good w → Calls Tryd.prog 9 #[.string ⟨x.toArray⟩] w fun e w' => e = .returned (.tuple #[.int .i64 a, .int .i64 0]) ∧ Below w.heap.size w w')
    (w : World) (hg : Good w) :
    Calls Tryd.prog 4 #[.int .i64 a, .int .i64 b] w fun e w' => e = .returned (.bool true) ∧ Below w.heap.size w w' := by
  have HG := Lib.hid hg; clear hg
  have hNA := Lib.hid NA; have hNB := Lib.hid NB; have hPA := Lib.hid PA; have HD := Lib.hid hdig; clear NA NB PA hdig
  have hix := idx x
  have HIX := Lib.hid hix; clear hix
  have hxe : ((x.length : Int) == 0) = false := by rw [beq_eq_false_iff_ne]; omega
  cases q <;> cases ng
  all_goals
    simp only [if_true, if_false, Bool.false_eq_true] at hng
    go_enter Tryd.func4, Tryd.ntmps4
    go_wp2_with fail
    refine (hNA.out _ HG.out).mono ?_
    rintro e w1 ⟨rfl, hb1⟩
    have hg1 := Lib.hid (HG.out.below hb1)
    go_wp2_with fail
    refine (hPA.out _ hg1.out).mono ?_
    rintro e w2 ⟨rfl, hb2⟩
    have hg2 := Lib.hid (hg1.out.below hb2)
    go_wp2_with fail
    refine (hNB.out _ hg2.out).mono ?_
    rintro e w3 ⟨rfl, hb3⟩
    have hg3 := Lib.hid (hg2.out.below hb3)
    have hb := (hb1.trans (hb2.mono hb1.size)).trans (hb3.mono (Nat.le_trans hb1.size hb2.size))
    clear hb1 hb2 hb3 hg1 hg2
    go_wp2_with fail
    go_loop [8] (fun i => ∃ k : Nat, k ≤ x.length ∧ i = .int .i64 k) (fun i => x.length - (intOf i).toNat)
    case atStart => exact ⟨0, Nat.zero_le _, rfl⟩
    case round =>
      obtain ⟨k, hk, rfl⟩ := hrel
      by_cases hlt : k < x.length
      · have hi := HIX.out k hlt
        rcases HD.out k hlt with ⟨h0, hn, hv⟩ | ⟨hv1, hv2⟩
        · first
            | exact absurd hn (by decide)
            | (have hk0 : k ≤ 0 := by omega
               have hv58 : 58 ≤ x[k].toNat := by omega
               clear h0 hn hv
               go_wp2_with fail
               go_round
               case rel => exact ⟨k + 1, by omega, by go_num⟩
               case measure => simp [intOf]; omega)
        · go_wp2_with fail
          go_round
          case rel => exact ⟨k + 1, by omega, by go_num⟩
          case measure => simp [intOf]; omega
      · go_wp2_with (go_at_call 21; refine (wakes_any _ hg3.out).mono ?_; rintro e w4 ⟨rfl, hb4⟩)
        go_ret
        exact ⟨rfl, hb.trans (hb4.mono hb.size)⟩

theorem i64_of_wf {a : Int} (h : (Lit.int .i64 a).wf = true) : Wd.inI64 a := by
  have e1 : IntKind.i64.min = -9223372036854775808 := rfl
  have e2 : IntKind.i64.max = 9223372036854775807 := rfl
  simp [Lit.wf, e1, e2] at h
  exact ⟨by omega, by omega⟩

theorem walk_wordNums (a : Int) (wa : (Lit.int .i64 a).wf = true) (b : Int) (wb : (Lit.int .i64 b).wf = true) (w : World) (hg : Good w) :
    Calls Tryd.prog 4 #[.int .i64 a, .int .i64 b] w fun e w' => e = .returned (.bool true) ∧ Below w.heap.size w w' := by
  have ha := i64_of_wf wa
  have hb := i64_of_wf wb
  have hlen := Wd.num_len a ha
  have hq : (Wd.num a == Wd.num b) = (a == b) := by
    rw [Bool.eq_iff_iff, beq_iff_eq, beq_iff_eq]
    exact ⟨fun h => Wd.num_inj a b ha hb h, fun h => by rw [h]⟩
  have hq2 : (Wd.num a == Wd.num b) = (Wd.num a == Wd.num b) := rfl
  by_cases hn : a < 0
  · obtain ⟨e1, _⟩ := Wd.num_neg hn
    have hd : ∀ k (h : k < (Wd.num a).length), (k = 0 ∧ true = true ∧ (Wd.num a)[k].toNat = 126) ∨ (48 ≤ (Wd.num a)[k].toNat ∧ (Wd.num a)[k].toNat ≤ 57) := by
      rw [e1]
      intro k h
      cases k with
      | zero => exact Or.inl ⟨rfl, rfl, rfl⟩
      | succ k => exact Or.inr (Wd.dec_digit a.natAbs _ (by simp))
    have h0 : 0 < (Wd.num a).length := by rw [e1]; simp
    exact nums_walk a b (Wd.num a) (Wd.num b) _ true hq2 hq.symm h0 hlen hn ((Wd.num a)[0].toNat : Int) (idx _ 0 h0) (by rcases hd 0 h0 with ⟨_, _, h⟩ | ⟨h1, h2⟩; (· rw [h]; rfl); (· simp only [e1, List.getElem_cons_zero] at h2; exact absurd h2 (by decide))) hd (fun w hg => num_any a ha w hg) (fun w hg => num_any b hb w hg) (fun w hg => parse_yes a ha w hg) w hg
  · obtain ⟨e1, _⟩ := Wd.num_pos hn
    have hd : ∀ k (h : k < (Wd.num a).length), (k = 0 ∧ false = true ∧ (Wd.num a)[k].toNat = 126) ∨ (48 ≤ (Wd.num a)[k].toNat ∧ (Wd.num a)[k].toNat ≤ 57) := by
      rw [e1]
      intro k h
      exact Or.inr (Wd.dec_digit a.toNat _ (List.getElem_mem h))
    have h0 : 0 < (Wd.num a).length := by
      obtain ⟨c, r, e2, _⟩ := Wd.dec_head a.toNat
      rw [e1, e2]; simp
    exact nums_walk a b (Wd.num a) (Wd.num b) _ false hq2 hq.symm h0 hlen (by simpa using hn) ((Wd.num a)[0].toNat : Int) (idx _ 0 h0) (by rcases hd 0 h0 with ⟨_, h, _⟩ | ⟨h1, h2⟩; (· cases h); (· rw [beq_eq_false_iff_ne]; omega)) hd (fun w hg => num_any a ha w hg) (fun w hg => num_any b hb w hg) (fun w hg => parse_yes a ha w hg) w hg
end Go.Proofs.YtmjoebndmlpphaaDoor
