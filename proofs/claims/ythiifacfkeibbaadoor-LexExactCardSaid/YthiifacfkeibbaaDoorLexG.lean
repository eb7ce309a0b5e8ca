/- The page's token at a literal, and whole. -/
import Derived.Test.YthiifacfkeibbaaDoorLexF
import Derived.Deep.RegionHeld
namespace Go.Proofs.YthiifacfkeibbaaDoor
open Go Go.RowKit
open Go.Proofs

set_option maxRecDepth 100000 in
set_option maxHeartbeats 2000000 in
theorem token_str (a : Option Addr) (b off cap : Nat) (l x : List UInt8) (i j : Nat) (hl : x.length ≤ 17000) (c : UInt8) (w : World) (hi : i < l.length) (hcell : ∀ o1 o2, ((w.alloc o1).alloc o2).cell? ⟨b, off + i, none⟩ = some (.int .u8 (c.toNat : Int)))
    (m c' : Nat)
    (hsl : ∀ w' : World, (Instr.slice 22 (.slice (some ⟨b, off, none⟩) l.length cap) (some (.int .i64 (i : Int))) (some (.int .i64 (j : Int))) none).run Tryd.prog w' = .ok (.slice a m c') w')
    (hcv : ∀ o1 o2, (convert 22 9 (.slice a m c')).run Tryd.prog ((w.alloc o1).alloc o2) = .ok (.string ⟨x.toArray⟩) ((w.alloc o1).alloc o2))
    (c1 : Wd.lowI (c.toNat : Int) = false) (c2 : digI (c.toNat : Int) = false) (c3 : ((c.toNat : Int) == 126) = false) (c4 : ((c.toNat : Int) == 34) = true) :
    Calls Tryd.prog 21 #[.slice (some ⟨b, off, none⟩) l.length cap, .int .i64 (i : Int), .int .i64 (j : Int)] w (TokR (Lx.strT x) i j w) := by
  obtain ⟨U, E, q, hpn, hE, hp⟩ : ∃ (U : List UInt8) (E : Int) (q : Bool), (∀ w, Calls Tryd.prog 38 #[.string ⟨x.toArray⟩] w fun e w' => e = .returned (.tuple #[.string ⟨U.toArray⟩, .int .i64 E]) ∧ Below w.heap.size w w') ∧ (E == 0) = q ∧ PR (Lx.strT x) q 4 ⟨U.toArray⟩ 0 := by
    cases h : Lx.plit x with
    | none => exact ⟨[], 3, false, fun w => runq_no x (by omega) (Lx.plit_none h) w, rfl, by rw [Lx.strT, h]; rfl⟩
    | some u =>
      obtain ⟨h1, h2⟩ := Lx.plit_some h
      refine ⟨u, 0, true, fun w => ?_, rfl, by rw [Lx.strT, h]; exact ⟨rfl, rfl, rfl, rfl⟩⟩
      have := runq_yes u h1 w
      rw [h2] at this; exact this
  have HPN := Lib.hid hpn; have HP := Lib.hid hp
  clear hpn hp
  generalize (c.toNat : Int) = cc at *
  go_enter Tryd.func21, Tryd.ntmps21
  go_wp2_with (first | (go_at_call 24; refine (rlower_any _ _).mono ?_; rintro e w' ⟨rfl, rfl⟩) | (go_at_call 36; refine (rdigit_any _ _).mono ?_; rintro e w' ⟨rfl, rfl⟩))
  refine (HPN.out _).mono ?_
  rintro e w1 ⟨rfl, hb⟩
  obtain ⟨hc, hf⟩ := bcell hb
  have hz := hb.size
  simp at hz
  go_wp2_with fail
  have hbw : Below w.heap.size w w1 := (((Below.refl _ _).alloc (Nat.le_refl _) _).alloc (by simp) _).trans (hb.mono (by simp; omega))
  have k0 : (w1.setCell ⟨w.heap.size + 1, 3, none⟩ (.string ⟨U.toArray⟩)).cell? ⟨w.heap.size, 0, none⟩ = some (.int .i64 0) := by
    rw [World.cell?_setCell_far _ _ _ _ (by simp), hc _ _ (by simp; omega)]; simp
  have k1 : (w1.setCell ⟨w.heap.size + 1, 3, none⟩ (.string ⟨U.toArray⟩)).cell? ⟨w.heap.size, 1, none⟩ = some (.int .i64 0) := by
    rw [World.cell?_setCell_far _ _ _ _ (by simp), hc _ _ (by simp; omega)]; simp
  have k2 : (w1.setCell ⟨w.heap.size + 1, 3, none⟩ (.string ⟨U.toArray⟩)).cell? ⟨w.heap.size, 2, none⟩ = some (.int .i64 0) := by
    rw [World.cell?_setCell_far _ _ _ _ (by simp), hc _ _ (by simp; omega)]; simp
  have k3 : (w1.setCell ⟨w.heap.size + 1, 3, none⟩ (.string ⟨U.toArray⟩)).cell? ⟨w.heap.size, 3, none⟩ = some (.string ⟨#[]⟩) := by
    rw [World.cell?_setCell_far _ _ _ _ (by simp), hc _ _ (by simp; omega)]; simp
  have k4 : (w1.setCell ⟨w.heap.size + 1, 3, none⟩ (.string ⟨U.toArray⟩)).cell? ⟨w.heap.size, 4, none⟩ = some (.int .i64 0) := by
    rw [World.cell?_setCell_far _ _ _ _ (by simp), hc _ _ (by simp; omega)]; simp
  have hbw : Below w.heap.size w (w1.setCell ⟨w.heap.size + 1, 3, none⟩ (.string ⟨U.toArray⟩)) := ((((Below.refl _ _).alloc (Nat.le_refl _) _).alloc (by simp) _).trans (hb.mono (by simp; omega))).setCell (by simp) _
  clear hc hf hb
  generalize w1.setCell ⟨w.heap.size + 1, 3, none⟩ (.string ⟨U.toArray⟩) = w2 at *
  exact bodyPost_ret (v := .tuple #[.agg #[.int .i64 4, .int .i64 (i : Int), .int .i64 (j : Int), .string ⟨U.toArray⟩, .int .i64 0], .bool q]) (by simp [results, Tryd.results21, go_sem, k0, k1, k2, k3, k4]) rfl ⟨_, _, _, _, HP.out, rfl, below_set5 hbw _ (Nat.le_refl _) _ _ _ _ _⟩

theorem span_first (c : UInt8) (r : List UInt8) : (∀ n, span c r = some n → n ≤ (c :: r).length ∧ 1 ≤ n ∧ ∀ b, Lx.first (c :: r) = some b → b.len = n) ∧ (span c r = none → Lx.first (c :: r) = none) := by
  have h1 := Lx.tw_len Wd.part r
  have h2 := Lx.tw_len Lx.dig r
  simp only [span, Lx.first]
  split
  · refine ⟨fun n hn => ?_, fun h => by cases h⟩
    injection hn with hn; subst hn
    exact ⟨by simp; omega, by omega, fun b hb => by rw [Lx.wordT_len hb]; simp; omega⟩
  · split
    · refine ⟨fun n hn => ?_, fun h => by cases h⟩
      injection hn with hn; subst hn
      exact ⟨by simp; omega, by omega, fun b hb => by rw [Lx.numT_len hb]; simp; omega⟩
    · split
      · split
        · refine ⟨fun n hn => ?_, fun h => by cases h⟩
          injection hn with hn; subst hn
          exact ⟨by simp; omega, by omega, fun b hb => by rw [Lx.strT_len hb]; simp⟩
        · exact ⟨(fun n hn => by cases hn), fun _ => rfl⟩
      · simp only [Lx.signT]
        split
        · rename_i hl
          refine ⟨fun n hn => ?_, fun h => by cases h⟩
          injection hn with hn; subst hn
          refine ⟨?_, by omega, fun b hb => by injection hb with hb; subst hb; rfl⟩
          cases r with
          | nil => simp [Lx.long] at hl
          | cons d r => simp
        · split
          · refine ⟨fun n hn => ?_, fun h => by cases h⟩
            injection hn with hn; subst hn
            exact ⟨by simp, by omega, fun b hb => by injection hb with hb; subst hb; rfl⟩
          · exact ⟨(fun n hn => by cases hn), fun _ => rfl⟩

/-- WHAT token HANDS BACK. -/
theorem token_any (a : Option Addr) (cap : Nat) (l : List UInt8) (hl : l.length ≤ 16394) (hcap : l.length ≤ cap) (i n : Nat) (c : UInt8) (r : List UInt8) (hd : l.drop i = c :: r) (hn : span c r = some n) (w : World) (hh : Holds w a l) :
    Calls Tryd.prog 21 #[.slice a l.length cap, .int .i64 (i : Int), .int .i64 ((i + n : Nat) : Int)] w (TokR (Lx.first (c :: r)) i (i + n) w) := by
  have hi : i < l.length := by
    rcases Nat.lt_or_ge i l.length with h | h
    · exact h
    · rw [List.drop_of_length_le h] at hd; cases hd
  have hrl : (c :: r).length = l.length - i := by rw [← hd]; simp
  obtain ⟨hn1, hn2, _⟩ := (span_first c r).1 n hn
  have hd2 := List.drop_eq_getElem_cons hi
  rw [hd] at hd2
  injection hd2 with e1 e2
  obtain ⟨a', hsl, hh'⟩ := sub_bytes cap hcap hh i (i + n) (by omega) (by omega)
  rw [show i + n - i = n from by omega, hd] at hh'
  rw [show i + n - i = n from by omega] at hsl
  have hxl : ((c :: r).take n).length = n := by rw [List.length_take]; omega
  have hcv : ∀ o1 o2, (convert 22 9 (.slice a' n (cap - i))).run Tryd.prog ((w.alloc o1).alloc o2) = .ok (.string ⟨((c :: r).take n).toArray⟩) ((w.alloc o1).alloc o2) := fun o1 o2 =>
    conv_holds ((hh'.below (Nat.le_refl _) (((Below.refl w.heap.size w).alloc (Nat.le_refl _) o1).alloc (by simp) o2))) n (cap - i) hxl.symm
  have hh2 : ∀ o1 o2, Holds ((w.alloc o1).alloc o2) a l := fun o1 o2 => hh.below (Nat.le_refl _) (((Below.refl w.heap.size w).alloc (Nat.le_refl _) o1).alloc (by simp) o2)
  rcases hh with h0 | ⟨b, off, rfl, hb, hc⟩
  · rw [h0] at hi; simp at hi
  have hcell : ∀ o1 o2, ((w.alloc o1).alloc o2).cell? ⟨b, off + i, none⟩ = some (.int .u8 (c.toNat : Int)) := fun o1 o2 => by
    rcases hh2 o1 o2 with h0 | ⟨b', off', h1, _, h3⟩
    · rw [h0] at hi; simp at hi
    · injection h1 with h1; injection h1 with h1 h1'
      subst h1 h1'
      rw [h3 i hi, e1]
  have hsn := hn
  unfold span at hsn
  simp only [Lx.first]
  by_cases hlow : Wd.low c = true
  · rw [if_pos hlow] at hsn ⊢
    injection hsn with hsn
    have hx : (c :: r).take n = c :: r.takeWhile Wd.part := by rw [← hsn, show 1 + (r.takeWhile Wd.part).length = (r.takeWhile Wd.part).length + 1 from by omega, List.take_succ_cons, tw_take]
    rw [hx] at hcv hxl
    exact token_word a' b off cap l _ i (i + n) (by rw [hxl]; omega) c w hi hcell _ _ hsl hcv hlow
  · rw [if_neg hlow] at hsn ⊢
    have hlow' : Wd.lowI (c.toNat : Int) = false := by simpa [Wd.low] using hlow
    by_cases hdig : (Lx.dig c || c == 126) = true
    · rw [if_pos hdig] at hsn ⊢
      injection hsn with hsn
      have hx : (c :: r).take n = c :: r.takeWhile Lx.dig := by rw [← hsn, show 1 + (r.takeWhile Lx.dig).length = (r.takeWhile Lx.dig).length + 1 from by omega, List.take_succ_cons, tw_take]
      rw [hx] at hcv hxl
      exact token_num a' b off cap l _ i (i + n) (by rw [hxl]; omega) c w hi hcell _ _ hsl hcv hlow' (by rw [c126]; exact hdig)
    · rw [if_neg hdig] at hsn ⊢
      have hdig' : Lx.dig c = false ∧ (c == 126) = false := by simpa using hdig
      by_cases h34 : (c == 34) = true
      · rw [if_pos h34] at hsn ⊢
        have e34 : c = 34 := by simpa using h34
        split at hsn
        · rename_i hlt
          injection hsn with hsn
          rw [if_pos hlt]
          have hx : (c :: r).take n = 34 :: r.takeWhile Lx.notQ ++ [34] := by rw [← hsn, e34, List.take_succ_cons, tw_q r hlt]; rfl
          rw [hx] at hcv hxl
          exact token_str a' b off cap l _ i (i + n) (by rw [hxl]; omega) c w hi hcell _ _ hsl hcv hlow' hdig'.1 (by rw [c126]; exact hdig'.2) (by rw [c34]; exact h34)
        · cases hsn
      · rw [if_neg h34] at hsn ⊢
        have h34' : ((c.toNat : Int) == 34) = false := by rw [c34]; simpa using h34
        simp only [Lx.signT]
        split at hsn
        · rename_i hlg
          injection hsn with hsn
          rw [if_pos hlg]
          have hx : (c :: r).take n = c :: r.take 1 := by rw [← hsn]; rfl
          rw [hx] at hcv
          exact token_sign a' b off cap l _ i (i + n) c w hi hcell _ _ hsl hcv hlow' hdig'.1 (by rw [c126]; exact hdig'.2) h34' _ ⟨rfl, rfl, rfl, rfl⟩
        · rename_i hlg
          split at hsn
          · rename_i hsh
            injection hsn with hsn
            rw [if_neg hlg, if_pos hsh]
            have hx : (c :: r).take n = [c] := by rw [← hsn]; rfl
            rw [hx] at hcv
            exact token_sign a' b off cap l _ i (i + n) c w hi hcell _ _ hsl hcv hlow' hdig'.1 (by rw [c126]; exact hdig'.2) h34' _ ⟨rfl, rfl, rfl, rfl⟩
          · cases hsn
end Go.Proofs.YthiifacfkeibbaaDoor
