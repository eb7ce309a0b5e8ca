/- The law AgreeBits: its walk. -/
import Derived.Test.YtopfdggbkckeoaaAbA
namespace Go.Proofs.Ytopfdggbkckeoaa
open Go Go.RowKit
open Tp (T)

def lk (i : Nat) : Int := if i = 0 then 1 else if i = 1 then 2 else if i = 2 then 3 else if i = 3 then 4 else if i = 4 then 5 else 6
def ln (i : Nat) : Int := if i = 6 then 7 else 0
def lf (i : Nat) : T := .mk (lk i) (ln i) []
def oneB (i k : Nat) : Bool := decide (i = k) || (decide (i = 4) && decide (k < 4)) || (decide (k = 4) && decide (i < 4))
theorem lf_agree : ∀ i, i < 7 → ∀ k, k < 7 → Tp.agree (lf i) (lf k) = oneB i k := by decide +kernel
theorem lf_right : ∀ i, i < 7 → Tp.right (lf i) = true := by decide +kernel
theorem bits_ok {i j k l : Nat} (hi : i < 7) (hj : j < 7) (hk : k < 7) (hl : l < 7) : Tp.ok (.mk 9 0 [lf i, lf j]) (.mk 9 0 [lf k, lf l]) = (oneB i k && oneB j l) := by
  have r : ∀ a b, a < 7 → b < 7 → Tp.right (.mk 9 0 [lf a, lf b]) = true := fun a b ha hb => by rw [two_right 9 (.inr rfl), lf_right a ha, lf_right b hb]; rfl
  unfold Tp.ok
  rw [r i j hi hj, r k l hk hl]
  simp [Tp.agree, Tp.agrees, lf_agree i hi k hk, lf_agree j hj l hl]
theorem lf_i64 (i : Nat) : I64 (lk i) ∧ I64 (ln i) := by
  unfold lk ln I64
  constructor
  · split
    · omega
    · split
      · omega
      · split
        · omega
        · split
          · omega
          · split <;> omega
  · split <;> omega
theorem lf_at {G : Nat → Prop} {w : World} (i : Nat) : TyAt G w (lf i) none 0 := ⟨(lf_i64 i).1, (lf_i64 i).2, Nat.le_refl _, Nat.zero_le _, (show KidsAt G w [] none by simp [KidsAt])⟩
theorem row_leaf {W : World} {g : Nat} {i : Nat} (hi : i < 7) (hg : W.heap[g]? = some (.cells #[.int .i64 1, .int .i64 0, .slice none 0 0, .int .i64 2, .int .i64 0, .slice none 0 0, .int .i64 3, .int .i64 0, .slice none 0 0, .int .i64 4, .int .i64 0, .slice none 0 0, .int .i64 5, .int .i64 0, .slice none 0 0, .int .i64 6, .int .i64 0, .slice none 0 0, .int .i64 6, .int .i64 7, .slice none 0 0] 24)) :
    W.cell? ⟨g, i * 3, none⟩ = some (.int .i64 (lk i)) ∧ W.cell? ⟨g, i * 3 + 1, none⟩ = some (.int .i64 (ln i)) ∧ W.cell? ⟨g, i * 3 + 2, none⟩ = some (.slice none 0 0) := by
  match i, hi with
  | 0, _ => exact ⟨cell_box hg rfl rfl, cell_box hg rfl rfl, cell_box hg rfl rfl⟩
  | 1, _ => exact ⟨cell_box hg rfl rfl, cell_box hg rfl rfl, cell_box hg rfl rfl⟩
  | 2, _ => exact ⟨cell_box hg rfl rfl, cell_box hg rfl rfl, cell_box hg rfl rfl⟩
  | 3, _ => exact ⟨cell_box hg rfl rfl, cell_box hg rfl rfl, cell_box hg rfl rfl⟩
  | 4, _ => exact ⟨cell_box hg rfl rfl, cell_box hg rfl rfl, cell_box hg rfl rfl⟩
  | 5, _ => exact ⟨cell_box hg rfl rfl, cell_box hg rfl rfl, cell_box hg rfl rfl⟩
  | 6, _ => exact ⟨cell_box hg rfl rfl, cell_box hg rfl rfl, cell_box hg rfl rfl⟩
theorem rem7 (n : Int) : ∃ r : Nat, (IntKind.u64.wrap n).tmod 7 = (r : Int) ∧ r < 7 ∧ wrap64 (r : Int) = (r : Int) := by
  have h0 : 0 ≤ IntKind.u64.wrap n := by
    simp [IntKind.wrap, IntKind.bits, IntKind.signed]
    omega
  have h1 : (IntKind.u64.wrap n).tmod 7 = (IntKind.u64.wrap n) % 7 := Int.tmod_eq_emod_of_nonneg h0
  refine ⟨((IntKind.u64.wrap n) % 7).toNat, ?_, ?_, ?_⟩
  · rw [h1]; omega
  · omega
  · unfold wrap64; omega
set_option maxHeartbeats 1000000 in
theorem int_any (x : Int) (w : World) : Calls Try.prog 24 #[.int .i64 x, .int .i64 7] w fun e w' => (∃ r : Nat, r < 7 ∧ e = .returned (.int .i64 (r : Int))) ∧ w = w' := by
  obtain ⟨r, h1, h2, h3⟩ := rem7 x
  have H2 := Lib.hid h2; clear h2
  go_enter Try.func24, Try.ntmps24
  go_wp2_with fail
  go_ret
  refine ⟨⟨r, H2.out, ?_⟩, rfl⟩
  show Ending.returned (.int .i64 (wrap64 (r : Int))) = _
  rw [h3]

set_option maxRecDepth 100000 in
set_option maxHeartbeats 4000000 in
theorem lbits_any (x1 x2 x3 x4 : Int) (w : World) (_ : I64 x1) (_ : I64 x2) (_ : I64 x3) (_ : I64 x4) :
    Calls Try.prog 8 #[.int .i64 x1, .int .i64 x2, .int .i64 x3, .int .i64 x4] w fun e w' => e = .returned (.bool true) ∧ Below w.heap.size w w' := by
  have HL := Lib.hid (fun k w => leaf_any k w)
  have HI := Lib.hid (fun x w => int_any x w)
  go_enter Try.func8, Try.ntmps8
  go_wp2_with fail
  refine (HL.out 1 w).mono ?_
  rintro e w1 ⟨rfl, hb1⟩
  have HB1 := Lib.hid hb1; clear hb1
  go_wp2_with fail
  refine (HL.out 2 w1).mono ?_
  rintro e w2 ⟨rfl, hb⟩
  have HB2 := Lib.hid (HB1.out.tr hb (Nat.le_refl _)); clear hb
  go_wp2_with fail
  refine (HL.out 3 w2).mono ?_
  rintro e w3 ⟨rfl, hb⟩
  have HB3 := Lib.hid (HB2.out.tr hb (Nat.le_refl _)); clear hb
  go_wp2_with fail
  refine (HL.out 4 w3).mono ?_
  rintro e w4 ⟨rfl, hb⟩
  have HB4 := Lib.hid (HB3.out.tr hb (Nat.le_refl _)); clear hb
  go_wp2_with fail
  refine (HL.out 5 w4).mono ?_
  rintro e w5 ⟨rfl, hb⟩
  have HB5 := Lib.hid (HB4.out.tr hb (Nat.le_refl _)); clear hb
  obtain ⟨W6, hW6⟩ : ∃ W6, w5.alloc (.cells #[.int .i64 1, .int .i64 0, .slice none 0 0, .int .i64 2, .int .i64 0, .slice none 0 0, .int .i64 3, .int .i64 0, .slice none 0 0, .int .i64 4, .int .i64 0, .slice none 0 0, .int .i64 5, .int .i64 0, .slice none 0 0, .int .i64 6, .int .i64 0, .slice none 0 0, .int .i64 6, .int .i64 7, .slice none 0 0] 24) = W6 := ⟨_, rfl⟩
  have HB6 := Lib.hid (HB5.out.tr (show Below w5.heap.size w5 W6 by rw [← hW6]; exact (Below.refl _ _).alloc (Nat.le_refl _) _) (Nat.le_refl _))
  have HG := Lib.hid (show W6.heap[w5.heap.size]? = some (.cells #[.int .i64 1, .int .i64 0, .slice none 0 0, .int .i64 2, .int .i64 0, .slice none 0 0, .int .i64 3, .int .i64 0, .slice none 0 0, .int .i64 4, .int .i64 0, .slice none 0 0, .int .i64 5, .int .i64 0, .slice none 0 0, .int .i64 6, .int .i64 0, .slice none 0 0, .int .i64 6, .int .i64 7, .slice none 0 0] 24) by rw [← hW6]; exact World.alloc_heap_new w5 _)
  have HW6 := Lib.hid hW6; clear hW6
  go_upto_region 2 with fail
  rw [HW6.out]
  go_wp2_with fail
  refine (HI.out x1 W6).mono ?_
  rintro e wx ⟨⟨i, hi, rfl⟩, rfl⟩
  go_wp2_with fail
  refine (HI.out x2 W6).mono ?_
  rintro e wx ⟨⟨j, hj, rfl⟩, rfl⟩
  go_wp2_with fail
  refine (HI.out x3 W6).mono ?_
  rintro e wx ⟨⟨k, hk, rfl⟩, rfl⟩
  go_wp2_with fail
  refine (HI.out x4 W6).mono ?_
  rintro e wx ⟨⟨l, hl, rfl⟩, rfl⟩
  obtain ⟨b1, hb1⟩ : ∃ b, oneB i k = b := ⟨_, rfl⟩
  obtain ⟨b2, hb2⟩ : ∃ b, oneB j l = b := ⟨_, rfl⟩
  have Hb1 := Lib.hid hb1; have Hb2 := Lib.hid hb2
  have hok := bits_ok hi hj hk hl
  rw [hb1, hb2] at hok
  have HOK := Lib.hid hok
  have hc1 := row_leaf (W := W6.drew) hi HG.out; have hc2 := row_leaf (W := W6.drew) hj HG.out; have hc3 := row_leaf (W := W6.drew) hk HG.out; have hc4 := row_leaf (W := W6.drew) hl HG.out
  have HC := Lib.hid (And.intro hc1 (And.intro hc2 (And.intro hc3 hc4)))
  have HLT := Lib.hid (And.intro hi (And.intro hj (And.intro hk hl)))
  clear hb1 hb2 hok hc1 hc2 hc3 hc4 hi hj hk hl
  go_upto_region 3 with fail
  go_cut [10] from 12 (fun v wx => v = .bool b1 ∧ W6 = wx)
  case first =>
    by_cases q1 : i = k
    · subst q1
      have g1 : oneB i i = true := by simp [oneB]
      have G1 := Lib.hid (Hb1.out.symm.trans g1); clear g1
      go_wp2_with fail
      go_meet
      case rel => exact ⟨by rw [G1.out], rfl⟩
    · have p1 : ((i : Int) == (k : Int)) = false := by simp; omega
      by_cases q2 : i = 4
      · subst q2
        by_cases q3 : k < 4
        · have p3 : decide ((k : Int) < 4) = true := by simp; omega
          have g1 : oneB 4 k = true := by simp [oneB, q3]
          have G1 := Lib.hid (Hb1.out.symm.trans g1); clear g1
          go_wp2_with fail
          go_meet
          case rel => exact ⟨by rw [G1.out], rfl⟩
        · have p3 : decide ((k : Int) < 4) = false := by simp; omega
          have p4 : ((k : Int) == 4) = false := by simp; omega
          have g1 : oneB 4 k = false := by simp [oneB, q3]; omega
          have G1 := Lib.hid (Hb1.out.symm.trans g1); clear g1
          go_wp2_with fail
          go_meet
          case rel => exact ⟨by rw [G1.out]; exact congrArg Value.bool (by simp; omega), rfl⟩
      · have p2 : ((i : Int) == 4) = false := by simp; omega
        by_cases q4 : k = 4
        · subst q4
          by_cases q5 : i < 4
          · have p5 : decide ((i : Int) < 4) = true := by simp; omega
            have g1 : oneB i 4 = true := by simp [oneB, q5]
            have G1 := Lib.hid (Hb1.out.symm.trans g1); clear g1
            go_wp2_with fail
            go_meet
            case rel => exact ⟨by rw [G1.out], rfl⟩
          · have p5 : decide ((i : Int) < 4) = false := by simp; omega
            have g1 : oneB i 4 = false := by simp [oneB, q5, q2]
            have G1 := Lib.hid (Hb1.out.symm.trans g1); clear g1
            go_wp2_with fail
            go_meet
            case rel => exact ⟨by rw [G1.out], rfl⟩
        · have p4 : ((k : Int) == 4) = false := by simp; omega
          have g1 : oneB i k = false := by simp [oneB, q1, q2, q4]
          have G1 := Lib.hid (Hb1.out.symm.trans g1); clear g1
          go_wp2_with fail
          go_meet
          case rel => exact ⟨by rw [G1.out], rfl⟩
  case rest =>
  obtain ⟨rfl, rfl⟩ := hcut
  go_upto_region 4 with fail
  go_cut [11] from 12 (fun v wx => v = .bool b2 ∧ W6 = wx)
  case first =>
    by_cases q1 : j = l
    · subst q1
      have g1 : oneB j j = true := by simp [oneB]
      have G1 := Lib.hid (Hb2.out.symm.trans g1); clear g1
      go_wp2_with fail
      go_meet
      case rel => exact ⟨by rw [G1.out], rfl⟩
    · have p1 : ((j : Int) == (l : Int)) = false := by simp; omega
      by_cases q2 : j = 4
      · subst q2
        by_cases q3 : l < 4
        · have p3 : decide ((l : Int) < 4) = true := by simp; omega
          have g1 : oneB 4 l = true := by simp [oneB, q3]
          have G1 := Lib.hid (Hb2.out.symm.trans g1); clear g1
          go_wp2_with fail
          go_meet
          case rel => exact ⟨by rw [G1.out], rfl⟩
        · have p3 : decide ((l : Int) < 4) = false := by simp; omega
          have p4 : ((l : Int) == 4) = false := by simp; omega
          have g1 : oneB 4 l = false := by simp [oneB, q3]; omega
          have G1 := Lib.hid (Hb2.out.symm.trans g1); clear g1
          go_wp2_with fail
          go_meet
          case rel => exact ⟨by rw [G1.out]; exact congrArg Value.bool (by simp; omega), rfl⟩
      · have p2 : ((j : Int) == 4) = false := by simp; omega
        by_cases q4 : l = 4
        · subst q4
          by_cases q5 : j < 4
          · have p5 : decide ((j : Int) < 4) = true := by simp; omega
            have g1 : oneB j 4 = true := by simp [oneB, q5]
            have G1 := Lib.hid (Hb2.out.symm.trans g1); clear g1
            go_wp2_with fail
            go_meet
            case rel => exact ⟨by rw [G1.out], rfl⟩
          · have p5 : decide ((j : Int) < 4) = false := by simp; omega
            have g1 : oneB j 4 = false := by simp [oneB, q5, q2]
            have G1 := Lib.hid (Hb2.out.symm.trans g1); clear g1
            go_wp2_with fail
            go_meet
            case rel => exact ⟨by rw [G1.out], rfl⟩
        · have p4 : ((l : Int) == 4) = false := by simp; omega
          have g1 : oneB j l = false := by simp [oneB, q1, q2, q4]
          have G1 := Lib.hid (Hb2.out.symm.trans g1); clear g1
          go_wp2_with fail
          go_meet
          case rel => exact ⟨by rw [G1.out], rfl⟩
  case rest =>
  obtain ⟨rfl, rfl⟩ := hcut
  obtain ⟨hi, hj, hk, hl⟩ := HLT.out
  have i1 : (i : Int) < 7 := by omega
  have i2 : (j : Int) < 7 := by omega
  have i3 : (k : Int) < 7 := by omega
  have i4 : (l : Int) < 7 := by omega
  have H9 := Lib.hid (show I64 9 from i64_nat (by decide) (by decide))
  have HT1 := Lib.hid (fun x => two_any 9 H9.out (lf i) (lk i) (ln i) 0 none 0 (lf j) (lk j) (ln j) 0 none 0 x ⟨rfl, rfl, rfl⟩ ⟨rfl, rfl, rfl⟩ (lf_at i) (lf_at j))
  have HT2 := Lib.hid (fun x => two_any 9 H9.out (lf k) (lk k) (ln k) 0 none 0 (lf l) (lk l) (ln l) 0 none 0 x ⟨rfl, rfl, rfl⟩ ⟨rfl, rfl, rfl⟩ (lf_at k) (lf_at l))
  have HAG := Lib.hid (fun (x : World) g g' (ht : TyAt (LT x.heap.size) x (.mk 9 0 [lf i, lf j]) (some ⟨g, 0, none⟩) 2) (ht' : TyAt (LT x.heap.size) x (.mk 9 0 [lf k, lf l]) (some ⟨g', 0, none⟩) 2) => ag_any (w := x) (t := .mk 9 0 [lf i, lf j]) (u := .mk 9 0 [lf k, lf l]) (k := 9) (n := 0) (m := 2) (k' := 9) (n' := 0) (m' := 2) ⟨rfl, rfl, rfl⟩ ⟨rfl, rfl, rfl⟩ ht ht' (by simp [lf, Tp.size, Tp.sizes]) (by simp [lf, Tp.size, Tp.sizes]))
  rw [HOK.out] at HAG
  have HB0 := Lib.hid (Below.refl W6.heap.size W6).drew
  go_upto_region 5 with fail
  cases b1
  case' true => cases b2
  all_goals
    obtain ⟨⟨c0, c1, c2⟩, ⟨c3, c4, c5⟩, ⟨c6, c7, c8⟩, ⟨c9, c10, c11⟩⟩ := HC.out
    refine wp_region_seq [(0, false), (0, false), (0, false), (0, false), (0, false), (0, false), (0, false), (0, false), (1, false), (1, false), (1, false), (1, false), (1, false), (1, false), (1, false), (1, false), (3, false), (0, true), (0, true), (0, true), (0, false), (0, false), (0, false), (0, false), (0, false), (0, true), (0, false), (0, false)] (by kernel_rfl) (by kernel_rfl) (by kernel_rfl) (fun _ _ _ d _ h => by cases d <;> exact h) ?_
    repeat
      first
      | (first | with_reducible refine sp0 (fun K hK => ?_) | with_reducible refine sp1 (fun K hK => ?_) | with_reducible refine sp2 (fun K hK => ?_) | with_reducible refine sp3 (fun K hK => ?_) | with_reducible refine sp4 (fun K hK => ?_)
         go_simp
         first
         | (with_reducible refine hK _ _ ?_; clear hK K)
         | (with_reducible apply Exists.intro
            refine ⟨fun x hx => ?_, hK _ _ ?_⟩
            first
              | (with_reducible exact rfl)
              | (have y0 := keepc hx c0; have y1 := keepc hx c1; have y2 := keepc hx c2; have y3 := keepc hx c3; have y4 := keepc hx c4; have y5 := keepc hx c5; have y6 := keepc hx c6; have y7 := keepc hx c7; have y8 := keepc hx c8; have y9 := keepc hx c9; have y10 := keepc hx c10; have y11 := keepc hx c11; go_simp; done)
              | (have y0 := keepc hx c0; have y1 := keepc hx c1; have y2 := keepc hx c2; have y3 := keepc hx c3; have y4 := keepc hx c4; have y5 := keepc hx c5; have y6 := keepc hx c6; have y7 := keepc hx c7; have y8 := keepc hx c8; have y9 := keepc hx c9; have y10 := keepc hx c10; have y11 := keepc hx c11; go_simp; with_reducible exact rfl)
            clear hK K))
      | (first | with_reducible refine sk0 ?_ (fun K hK => ?_) | with_reducible refine sk1 ?_ (fun K hK => ?_) | with_reducible refine sk2 ?_ (fun K hK => ?_) | with_reducible refine sk3 ?_ (fun K hK => ?_) | with_reducible refine sk4 ?_ (fun K hK => ?_)
         rfl
         go_simp
         with_reducible refine hK _ _ ?_
         clear hK K)
    first | with_reducible refine sc0 (fun K hK => ?_) | with_reducible refine sc1 (fun K hK => ?_) | with_reducible refine sc2 (fun K hK => ?_) | with_reducible refine sc3 (fun K hK => ?_) | with_reducible refine sc4 (fun K hK => ?_)
    go_simp
    refine (HT1.out _).mono ?_
    clear c0 c1 c2 c3 c4 c5 c6 c7 c8 c9 c10 c11
    rintro e y1 ⟨g1, rfl, ht1, hb⟩
    have HY1 := Lib.hid (HB0.out.tr hb (Nat.le_refl _)); have HTA := Lib.hid ht1
    refine ⟨hb, hK _ _ ?_⟩
    clear hK K
    clear hb ht1
    repeat
      first
      | (first | with_reducible refine sp0 (fun K hK => ?_) | with_reducible refine sp1 (fun K hK => ?_) | with_reducible refine sp2 (fun K hK => ?_) | with_reducible refine sp3 (fun K hK => ?_) | with_reducible refine sp4 (fun K hK => ?_)
         go_simp
         first
         | (with_reducible refine hK _ _ ?_; clear hK K)
         | (with_reducible apply Exists.intro
            refine ⟨fun x hx => ?_, hK _ _ ?_⟩
            first
              | (with_reducible exact rfl)
            clear hK K))
      | (first | with_reducible refine sk0 ?_ (fun K hK => ?_) | with_reducible refine sk1 ?_ (fun K hK => ?_) | with_reducible refine sk2 ?_ (fun K hK => ?_) | with_reducible refine sk3 ?_ (fun K hK => ?_) | with_reducible refine sk4 ?_ (fun K hK => ?_)
         rfl
         go_simp
         with_reducible refine hK _ _ ?_
         clear hK K)
    first | with_reducible refine sc0 (fun K hK => ?_) | with_reducible refine sc1 (fun K hK => ?_) | with_reducible refine sc2 (fun K hK => ?_) | with_reducible refine sc3 (fun K hK => ?_) | with_reducible refine sc4 (fun K hK => ?_)
    go_simp
    refine (HT2.out _).mono ?_
    rintro e y2 ⟨g2, rfl, ht2, hb⟩
    have HY2 := Lib.hid (HY1.out.tr hb (Nat.le_refl _)); have HTB := Lib.hid ht2; have HTA2 := Lib.hid (ty_later HTA.out hb)
    refine ⟨hb, hK _ _ ?_⟩
    clear hK K
    clear hb ht2
    repeat
      first
      | (first | with_reducible refine sp0 (fun K hK => ?_) | with_reducible refine sp1 (fun K hK => ?_) | with_reducible refine sp2 (fun K hK => ?_) | with_reducible refine sp3 (fun K hK => ?_) | with_reducible refine sp4 (fun K hK => ?_)
         go_simp
         first
         | (with_reducible refine hK _ _ ?_; clear hK K)
         | (with_reducible apply Exists.intro
            refine ⟨fun x hx => ?_, hK _ _ ?_⟩
            first
              | (with_reducible exact rfl)
            clear hK K))
      | (first | with_reducible refine sk0 ?_ (fun K hK => ?_) | with_reducible refine sk1 ?_ (fun K hK => ?_) | with_reducible refine sk2 ?_ (fun K hK => ?_) | with_reducible refine sk3 ?_ (fun K hK => ?_) | with_reducible refine sk4 ?_ (fun K hK => ?_)
         rfl
         go_simp
         with_reducible refine hK _ _ ?_
         clear hK K)
    first | with_reducible refine sc0 (fun K hK => ?_) | with_reducible refine sc1 (fun K hK => ?_) | with_reducible refine sc2 (fun K hK => ?_) | with_reducible refine sc3 (fun K hK => ?_) | with_reducible refine sc4 (fun K hK => ?_)
    go_simp
    refine (HAG.out _ g1 g2 HTA2.out HTB.out).mono ?_
    rintro e y3 ⟨rfl, hb⟩
    have HY3 := Lib.hid (HY2.out.tr hb (Nat.le_refl _))
    refine ⟨hb, hK _ _ ?_⟩
    clear hK K
    clear hb
    repeat
      first
      | (first | with_reducible refine sp0 (fun K hK => ?_) | with_reducible refine sp1 (fun K hK => ?_) | with_reducible refine sp2 (fun K hK => ?_) | with_reducible refine sp3 (fun K hK => ?_) | with_reducible refine sp4 (fun K hK => ?_)
         go_simp
         first
         | (with_reducible refine hK _ _ ?_; clear hK K)
         | (with_reducible apply Exists.intro
            refine ⟨fun x hx => ?_, hK _ _ ?_⟩
            first
              | (with_reducible exact rfl)
            clear hK K))
      | (first | with_reducible refine sk0 ?_ (fun K hK => ?_) | with_reducible refine sk1 ?_ (fun K hK => ?_) | with_reducible refine sk2 ?_ (fun K hK => ?_) | with_reducible refine sk3 ?_ (fun K hK => ?_) | with_reducible refine sk4 ?_ (fun K hK => ?_)
         rfl
         go_simp
         with_reducible refine hK _ _ ?_
         clear hK K)
    first | with_reducible refine sc0 (fun K hK => ?_) | with_reducible refine sc1 (fun K hK => ?_) | with_reducible refine sc2 (fun K hK => ?_) | with_reducible refine sc3 (fun K hK => ?_) | with_reducible refine sc4 (fun K hK => ?_)
    go_simp
    refine (wakes_any _).mono ?_
    rintro e y4 ⟨rfl, hb⟩
    have HY4 := Lib.hid (HY3.out.tr hb (Nat.le_refl _))
    refine ⟨hb, hK _ _ ?_⟩
    clear hK K
    clear hb
    repeat
      first
      | (first | with_reducible refine sp0 (fun K hK => ?_) | with_reducible refine sp1 (fun K hK => ?_) | with_reducible refine sp2 (fun K hK => ?_) | with_reducible refine sp3 (fun K hK => ?_) | with_reducible refine sp4 (fun K hK => ?_)
         go_simp
         first
         | (with_reducible refine hK _ _ ?_; clear hK K)
         | (with_reducible apply Exists.intro
            refine ⟨fun x hx => ?_, hK _ _ ?_⟩
            first
              | (with_reducible exact rfl)
            clear hK K))
      | (first | with_reducible refine sk0 ?_ (fun K hK => ?_) | with_reducible refine sk1 ?_ (fun K hK => ?_) | with_reducible refine sk2 ?_ (fun K hK => ?_) | with_reducible refine sk3 ?_ (fun K hK => ?_) | with_reducible refine sk4 ?_ (fun K hK => ?_)
         rfl
         go_simp
         with_reducible refine hK _ _ ?_
         clear hK K)
    with_reducible refine seq_nil ?_
    go_wp2_with fail
    go_ret
    exact ⟨rfl, HB6.out.tr HY4.out (Nat.le_refl _)⟩
end Go.Proofs.Ytopfdggbkckeoaa
