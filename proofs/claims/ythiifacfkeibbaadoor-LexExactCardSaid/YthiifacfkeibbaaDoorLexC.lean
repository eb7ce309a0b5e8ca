/- Walks: package lex's first. -/
import Derived.Test.YthiifacfkeibbaaDoorLexB
namespace Go.Proofs.YthiifacfkeibbaaDoor
open Go Go.RowKit
open Go.Proofs

def TokIs (P : Bool → Int → Int → ByteArray → Int → Prop) (w : World) (e : Ending) (w' : World) : Prop :=
  ∃ (q : Bool) (k t : Int) (s : ByteArray) (n : Int), P q k t s n ∧ e = .returned (.tuple #[.agg #[.int .i64 k, .int .i64 0, .int .i64 t, .string s, .int .i64 n], .bool q]) ∧ Below w.heap.size w w'
def PHit (b : Lx.Bare) (q : Bool) (k t : Int) (s : ByteArray) (n : Int) : Prop := q = true ∧ k = (b.kind : Int) ∧ t = (b.len : Int) ∧ s = ⟨b.s.toArray⟩ ∧ n = b.n
def PMiss (q : Bool) (_ _ : Int) (_ : ByteArray) (_ : Int) : Prop := q = false
def POf : Option Lx.Bare → Bool → Int → Int → ByteArray → Int → Prop
  | some b => PHit b
  | none => PMiss
theorem hit_in {b : Lx.Bare} {f : Nat} {a : Array Value} {w : World} (h : Calls Tryd.prog f a w (Hit b w)) : Calls Tryd.prog f a w (TokIs (PHit b) w) :=
  h.mono fun _ _ ⟨h1, h2⟩ => ⟨true, _, _, _, _, ⟨rfl, rfl, rfl, rfl, rfl⟩, h1, h2⟩
theorem miss_in {f : Nat} {a : Array Value} {w : World} (h : Calls Tryd.prog f a w (Miss w)) : Calls Tryd.prog f a w (TokIs PMiss w) :=
  h.mono fun _ _ ⟨k, t, s, n, h1, h2⟩ => ⟨false, k, t, s, n, rfl, h1, h2⟩
theorem hit_out {b : Lx.Bare} {f : Nat} {a : Array Value} {w : World} (h : Calls Tryd.prog f a w (TokIs (PHit b) w)) : Calls Tryd.prog f a w (Hit b w) :=
  h.mono fun _ _ ⟨_, _, _, _, _, ⟨h1, h2, h3, h4, h5⟩, h6, h7⟩ => by subst h1 h2 h3 h4 h5; exact ⟨h6, h7⟩
theorem miss_out {f : Nat} {a : Array Value} {w : World} (h : Calls Tryd.prog f a w (TokIs PMiss w)) : Calls Tryd.prog f a w (Miss w) :=
  h.mono fun _ _ ⟨q, k, t, s, n, h1, h2, h3⟩ => ⟨k, t, s, n, by rw [h2, show q = false from h1], h3⟩

theorem sl_m (c : UInt8) (r : List UInt8) (p : UInt8 → Bool) (w : World) :
    (Instr.slice 9 (.string ⟨(c :: r).toArray⟩) none (some (.int .i64 (1 + ((r.takeWhile p).length : Int)))) none).run Tryd.prog w = .ok (.string ⟨(c :: r.takeWhile p).toArray⟩) w := by
  have h1 := sl_to (c :: r) ((r.takeWhile p).length + 1) (by have := Lx.tw_len p r; simp; omega) w
  rw [List.take_succ_cons, tw_take] at h1
  rw [show (1 + ((r.takeWhile p).length : Int)) = (((r.takeWhile p).length + 1 : Nat) : Int) from by omega]
  exact h1

set_option maxHeartbeats 1000000 in
theorem first_word (c : UInt8) (r : List UInt8) (hl : r.length ≤ 100000) (P : Bool → Int → Int → ByteArray → Int → Prop) (hc : Wd.lowI (c.toNat : Int) = true)
    (T : ∀ w, Good w → Calls Tryd.prog 28 #[.string ⟨(c :: r.takeWhile Wd.part).toArray⟩] w (TokIs P w)) (w : World) (hg : Good w) :
    Calls Tryd.prog 18 #[.string ⟨(c :: r).toArray⟩] w (TokIs P w) := by
  have g1 := sl_1 c r; have g2 := sl_m c r Wd.part; have g3 := ix_0 c r
  have hm := Lx.tw_len Wd.part r
  have hr := run_part r (by omega)
  have HT := Lib.hid T; have HG := Lib.hid hg; have HR := Lib.hid hr
  clear T hg hr
  obtain ⟨m, hm2⟩ : ∃ m, m = (r.takeWhile Wd.part).length := ⟨_, rfl⟩
  rw [← hm2] at g2 hm HR
  clear hm2
  generalize r.takeWhile Wd.part = y at *
  go_enter Tryd.func18, Tryd.ntmps18
  go_wp2_with (first | (go_at_call 27; refine (xlow_any _ _).mono ?_; rintro e w' ⟨rfl, rfl⟩) | (go_at_call 29; refine (HR.out _).mono ?_; rintro e w' ⟨rfl, rfl⟩))
  have HG1 := Lib.hid (HG.out.below ((Below.refl w.heap.size w).alloc (Nat.le_refl _) (.cells #[.int .i64 0, .int .i64 0, .int .i64 0, .string { data := #[] }, .int .i64 0] 32)))
  refine (HT.out _ HG1.out).mono ?_
  rintro e w1 ⟨q, k, t, s, n, hP, rfl, hb⟩
  obtain ⟨hcell, hf⟩ := bcell hb
  have hz := hb.size
  have HP := Lib.hid hP; clear hP
  simp at hz
  go_wp2_with fail
  exact bodyPost_ret (v := .tuple #[.agg #[.int .i64 k, .int .i64 0, .int .i64 t, .string s, .int .i64 n], .bool q]) (by simp [results, Tryd.results18, go_sem, hcell]) rfl ⟨_, _, _, _, _, HP.out, rfl, below_set5 (below_in hb) _ (Nat.le_refl _) _ _ _ _ _⟩

set_option maxHeartbeats 1000000 in
theorem first_num (c : UInt8) (r : List UInt8) (hl : r.length ≤ 100000) (P : Bool → Int → Int → ByteArray → Int → Prop) (hc : Wd.lowI (c.toNat : Int) = false) (hd : (Lx.digI (c.toNat : Int) || (c.toNat : Int) == 126) = true)
    (T : ∀ w, Good w → Calls Tryd.prog 32 #[.string ⟨(c :: r.takeWhile Lx.dig).toArray⟩] w (TokIs P w)) (w : World) (hg : Good w) :
    Calls Tryd.prog 18 #[.string ⟨(c :: r).toArray⟩] w (TokIs P w) := by
  have g1 := sl_1 c r; have g2 := sl_m c r Lx.dig; have g3 := ix_0 c r
  have hm := Lx.tw_len Lx.dig r
  have hr := run_dig r (by omega)
  have HT := Lib.hid T; have HG := Lib.hid hg; have HR := Lib.hid hr
  clear T hg hr
  obtain ⟨m, hm2⟩ : ∃ m, m = (r.takeWhile Lx.dig).length := ⟨_, rfl⟩
  rw [← hm2] at g2 hm HR
  clear hm2
  generalize r.takeWhile Lx.dig = y at *
  cases hd1 : Lx.digI (c.toNat : Int) <;> cases hd2 : ((c.toNat : Int) == 126) <;> first | (rw [hd1, hd2] at hd; cases hd; done) | skip
  all_goals
    clear hd
    go_enter Tryd.func18, Tryd.ntmps18
    go_wp2_with (first | (go_at_call 27; refine (xlow_any _ _).mono ?_; rintro e w' ⟨rfl, rfl⟩) | (go_at_call 31; refine (xdig_any _ _).mono ?_; rintro e w' ⟨rfl, rfl⟩) | (go_at_call 29; refine (HR.out _).mono ?_; rintro e w' ⟨rfl, rfl⟩))
    have HG1 := Lib.hid (HG.out.below ((Below.refl w.heap.size w).alloc (Nat.le_refl _) (.cells #[.int .i64 0, .int .i64 0, .int .i64 0, .string { data := #[] }, .int .i64 0] 32)))
    refine (HT.out _ HG1.out).mono ?_
    rintro e w1 ⟨q, k, t, s, n, hP, rfl, hb⟩
    obtain ⟨hcell, hf⟩ := bcell hb
    have hz := hb.size
    have HP := Lib.hid hP; clear hP
    simp at hz
    go_wp2_with fail
    exact bodyPost_ret (v := .tuple #[.agg #[.int .i64 k, .int .i64 0, .int .i64 t, .string s, .int .i64 n], .bool q]) (by simp [results, Tryd.results18, go_sem, hcell]) rfl ⟨_, _, _, _, _, HP.out, rfl, below_set5 (below_in hb) _ (Nat.le_refl _) _ _ _ _ _⟩

set_option maxHeartbeats 1000000 in
theorem first_str (c : UInt8) (r : List UInt8) (P : Bool → Int → Int → ByteArray → Int → Prop) (hc : Wd.lowI (c.toNat : Int) = false) (hd1 : Lx.digI (c.toNat : Int) = false) (hd2 : ((c.toNat : Int) == 126) = false) (h34 : ((c.toNat : Int) == 34) = true)
    (T : ∀ w, Good w → Calls Tryd.prog 33 #[.string ⟨(c :: r).toArray⟩] w (TokIs P w)) (w : World) (hg : Good w) :
    Calls Tryd.prog 18 #[.string ⟨(c :: r).toArray⟩] w (TokIs P w) := by
  have g3 := ix_0 c r
  have HT := Lib.hid T; have HG := Lib.hid hg
  clear T hg
  go_enter Tryd.func18, Tryd.ntmps18
  go_wp2_with (first | (go_at_call 27; refine (xlow_any _ _).mono ?_; rintro e w' ⟨rfl, rfl⟩) | (go_at_call 31; refine (xdig_any _ _).mono ?_; rintro e w' ⟨rfl, rfl⟩))
  have HG1 := Lib.hid (HG.out.below ((Below.refl w.heap.size w).alloc (Nat.le_refl _) (.cells #[.int .i64 0, .int .i64 0, .int .i64 0, .string { data := #[] }, .int .i64 0] 32)))
  refine (HT.out _ HG1.out).mono ?_
  rintro e w1 ⟨q, k, t, s, n, hP, rfl, hb⟩
  obtain ⟨hcell, hf⟩ := bcell hb
  have hz := hb.size
  have HP := Lib.hid hP; clear hP
  simp at hz
  go_wp2_with fail
  exact bodyPost_ret (v := .tuple #[.agg #[.int .i64 k, .int .i64 0, .int .i64 t, .string s, .int .i64 n], .bool q]) (by simp [results, Tryd.results18, go_sem, hcell]) rfl ⟨_, _, _, _, _, HP.out, rfl, below_set5 (below_in hb) _ (Nat.le_refl _) _ _ _ _ _⟩

set_option maxHeartbeats 1000000 in
theorem first_sign (c : UInt8) (r : List UInt8) (P : Bool → Int → Int → ByteArray → Int → Prop) (hc : Wd.lowI (c.toNat : Int) = false) (hd1 : Lx.digI (c.toNat : Int) = false) (hd2 : ((c.toNat : Int) == 126) = false) (h34 : ((c.toNat : Int) == 34) = false)
    (T : ∀ w, Good w → Calls Tryd.prog 34 #[.string ⟨(c :: r).toArray⟩] w (TokIs P w)) (w : World) (hg : Good w) :
    Calls Tryd.prog 18 #[.string ⟨(c :: r).toArray⟩] w (TokIs P w) := by
  have g3 := ix_0 c r
  have HT := Lib.hid T; have HG := Lib.hid hg
  clear T hg
  go_enter Tryd.func18, Tryd.ntmps18
  go_wp2_with (first | (go_at_call 27; refine (xlow_any _ _).mono ?_; rintro e w' ⟨rfl, rfl⟩) | (go_at_call 31; refine (xdig_any _ _).mono ?_; rintro e w' ⟨rfl, rfl⟩))
  have HG1 := Lib.hid (HG.out.below ((Below.refl w.heap.size w).alloc (Nat.le_refl _) (.cells #[.int .i64 0, .int .i64 0, .int .i64 0, .string { data := #[] }, .int .i64 0] 32)))
  refine (HT.out _ HG1.out).mono ?_
  rintro e w1 ⟨q, k, t, s, n, hP, rfl, hb⟩
  obtain ⟨hcell, hf⟩ := bcell hb
  have hz := hb.size
  have HP := Lib.hid hP; clear hP
  simp at hz
  go_wp2_with fail
  exact bodyPost_ret (v := .tuple #[.agg #[.int .i64 k, .int .i64 0, .int .i64 t, .string s, .int .i64 n], .bool q]) (by simp [results, Tryd.results18, go_sem, hcell]) rfl ⟨_, _, _, _, _, HP.out, rfl, below_set5 (below_in hb) _ (Nat.le_refl _) _ _ _ _ _⟩

theorem c34 (c : UInt8) : ((c.toNat : Int) == 34) = (c == 34) := by
  rw [Bool.eq_iff_iff, beq_iff_eq, beq_iff_eq]
  exact ⟨fun h => UInt8.toNat_inj.1 (by have : (34 : UInt8).toNat = 34 := rfl; omega), fun h => by rw [h]; rfl⟩
theorem c126 (c : UInt8) : ((c.toNat : Int) == 126) = (c == 126) := by
  rw [Bool.eq_iff_iff, beq_iff_eq, beq_iff_eq]
  exact ⟨fun h => UInt8.toNat_inj.1 (by have : (126 : UInt8).toNat = 126 := rfl; omega), fun h => by rw [h]; rfl⟩

theorem tok_yes {o : Option Lx.Bare} {f : Nat} {a : Array Value} (h1 : ∀ b, o = some b → ∀ w, Good w → Calls Tryd.prog f a w (Hit b w)) (h2 : o = none → ∀ w, Good w → Calls Tryd.prog f a w (Miss w)) :
    ∀ w, Good w → Calls Tryd.prog f a w (TokIs (POf o) w) := by
  intro w hg
  cases o with
  | none => exact miss_in (h2 rfl w hg)
  | some b => exact hit_in (h1 b rfl w hg)

/-- WHAT first HANDS BACK. -/
theorem first_any (c : UInt8) (r : List UInt8) (hl : r.length ≤ 100000) (w : World) (hg : Good w) :
    Calls Tryd.prog 18 #[.string ⟨(c :: r).toArray⟩] w (TokIs (POf (Lx.first (c :: r))) w) := by
  have hm1 := Lx.tw_len Wd.part r
  have hm2 := Lx.tw_len Lx.dig r
  simp only [Lx.first]
  by_cases hc : Wd.low c = true
  · rw [if_pos hc]
    refine first_word c r hl _ hc (tok_yes ?_ ?_) w hg
    · intro b hb w hg
      simp only [Lx.wordT] at hb
      split at hb
      · rename_i hk; injection hb with hb; subst hb; exact word_key _ hk w
      · rename_i hk
        split at hb
        · rename_i hn; injection hb with hb; subst hb; exact word_name _ (by simp; omega) (by simpa using hk) hn w
        · cases hb
    · intro hb w hg
      simp only [Lx.wordT] at hb
      split at hb
      · cases hb
      · rename_i hk
        split at hb
        · cases hb
        · rename_i hn; exact word_none _ (by simp; omega) (by simpa using hk) (by simpa using hn) w
  · rw [if_neg hc]
    have hc' : Wd.lowI (c.toNat : Int) = false := by simpa [Wd.low] using hc
    by_cases hd : (Lx.dig c || c == 126) = true
    · rw [if_pos hd]
      refine first_num c r hl _ hc' (by rw [c126]; exact hd) (tok_yes ?_ ?_) w hg
      · intro b hb w hg
        simp only [Lx.numT, Option.map_eq_some_iff] at hb
        obtain ⟨n, hn, rfl⟩ := hb
        exact num_yes _ n hn w hg
      · intro hb w hg
        simp only [Lx.numT, Option.map_eq_none_iff] at hb
        exact num_no _ (by simp; omega) hb w hg
    · rw [if_neg hd]
      have hd' : Lx.dig c = false ∧ (c == 126) = false := by simpa using hd
      by_cases h34 : (c == 34) = true
      · rw [if_pos h34]
        have e : c = 34 := by simpa using h34
        subst e
        refine first_str 34 r _ hc' hd'.1 (by rw [c126]; exact hd'.2) (by rw [c34]; exact h34) (tok_yes ?_ ?_) w hg
        · intro b hb w hg
          split at hb
          · rename_i h
            simp only [Lx.strT, Option.map_eq_some_iff] at hb
            obtain ⟨u, hu, rfl⟩ := hb
            exact str_yes r hl h u hu w
          · cases hb
        · intro hb w hg
          split at hb
          · rename_i h
            simp only [Lx.strT, Option.map_eq_none_iff] at hb
            exact str_no r hl h hb w
          · rename_i h
            exact str_open r h w
      · rw [if_neg h34]
        refine first_sign c r _ hc' hd'.1 (by rw [c126]; exact hd'.2) (by rw [c34]; simpa using h34) (tok_yes ?_ ?_) w hg
        · exact fun b hb w hg => sign_yes c r b hb w
        · exact fun hb w hg => sign_none c r hb w
end Go.Proofs.YthiifacfkeibbaaDoor
