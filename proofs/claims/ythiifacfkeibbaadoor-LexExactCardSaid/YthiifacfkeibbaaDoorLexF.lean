/- Walks: the page's own answers: end at a sign, and whole; token. -/
import Derived.Test.YthiifacfkeibbaaDoorLexE
namespace Go.Proofs.YthiifacfkeibbaaDoor
open Go Go.RowKit
open Go.Proofs

theorem shorts_at (k : Nat) (h : k < Lx.shorts.length) (w : World) : (Instr.index 9 (.string { data := #[40, 41, 91, 93, 44, 58, 61, 124, 43, 45, 42, 47, 60, 63, 95] }) (.int .i64 (k : Int))).run Tryd.prog w = .ok (.int .u8 (Lx.shorts[k].toNat : Int)) w := idx Lx.shorts k h w
theorem byte_eq (c d : UInt8) : ((d.toNat : Int) == (c.toNat : Int)) = (d == c) := by
  rw [Bool.eq_iff_iff, beq_iff_eq, beq_iff_eq]
  exact ⟨fun h => UInt8.toNat_inj.1 (by omega), fun h => by rw [h]⟩

set_option maxRecDepth 100000 in
set_option maxHeartbeats 2000000 in
theorem end_sign (a : Option Addr) (b off cap : Nat) (l two : List UInt8) (hl : l.length ≤ 100000) (i : Nat) (hi : i < l.length) (c : UInt8) (w : World) (hcell : w.cell? ⟨b, off + i, none⟩ = some (.int .u8 (c.toNat : Int)))
    (c1 : Wd.lowI (c.toNat : Int) = false) (c2 : digI (c.toNat : Int) = false) (c3 : ((c.toNat : Int) == 126) = false) (c4 : ((c.toNat : Int) == 34) = false)
    (m c' : Nat)
    (hsl : ∀ w' : World, (Instr.slice 22 (.slice (some ⟨b, off, none⟩) l.length cap) (some (.int .i64 (i : Int))) (some (.int .i64 (min ((i : Int) + 2) (l.length : Int)))) none).run Tryd.prog w' = .ok (.slice a m c') w')
    (hcv : (convert 22 9 (.slice a m c')).run Tryd.prog w = .ok (.string ⟨two.toArray⟩) w) (lg sh : Bool) (hlg : lg = (two == [45, 62] || two == [58, 58] || two == [61, 61])) (hsh : sh = Lx.shorts.contains c) :
    Calls Tryd.prog 20 #[.slice (some ⟨b, off, none⟩) l.length cap, .int .i64 (i : Int)] w fun e w' => e = .returned (.int .i64 (if lg then (i : Int) + 2 else if sh then (i : Int) + 1 else 0)) ∧ w = w' := by
  have HLG := Lib.hid hlg; have HSH := Lib.hid hsh
  clear hlg hsh
  cases q1 : (two == [45, 62]) <;> cases q2 : (two == [58, 58]) <;> cases q3 : (two == [61, 61])
  all_goals
    have hl2 := HLG.out
    rw [q1, q2, q3] at hl2
    simp only [Bool.or_self, Bool.or_true, Bool.or_false] at hl2
    subst hl2
    clear HLG
  all_goals
    go_enter Tryd.func20, Tryd.ntmps20
    go_wp2_with (first | (go_at_call 24; refine (rlower_any _ _).mono ?_; rintro e w' ⟨rfl, rfl⟩) | (go_at_call 36; refine (rdigit_any _ _).mono ?_; rintro e w' ⟨rfl, rfl⟩))
    first
      | (go_ret; exact ⟨rfl, rfl⟩)
      | skip
  generalize hcc : (c.toNat : Int) = cc at *
  go_loop [8, 9] (fun o v => ∃ k : Nat, k ≤ 15 ∧ v = .int .i64 k ∧ o = .bool ((Lx.shorts.take k).contains c)) (fun _ v => 15 - (intOf v).toNat)
  case atStart => exact ⟨0, by omega, rfl, rfl⟩
  case round =>
    obtain ⟨k, hk, rfl, rfl⟩ := hrel
    by_cases hlt : k < 15
    · have hlt' : k < Lx.shorts.length := hlt
      have hix := shorts_at k hlt'
      have hst : (Lx.shorts.take (k + 1)).contains c = ((Lx.shorts.take k).contains c || ((Lx.shorts[k].toNat : Int) == cc)) := by
        rw [List.take_succ_eq_append_getElem hlt', ← hcc, byte_eq, Bool.eq_iff_iff]
        simp only [List.contains_iff_mem, List.mem_append, List.mem_singleton, Bool.or_eq_true, beq_iff_eq]
        exact or_congr Iff.rfl eq_comm
      have HST := Lib.hid hst; have HCC := Lib.hid hcc
      clear hst hcc
      generalize (Lx.shorts[k].toNat : Int) = d at *
      generalize (Lx.shorts.take k).contains c = o1 at *
      cases o1 <;> cases hq : (d == cc)
      all_goals
        go_wp2_with fail
        go_round
        case rel => exact ⟨k + 1, by omega, by go_num, by rw [HST.out, hq]; rfl⟩
        case measure => simp [intOf]; omega
    · have hfin : (Lx.shorts.take k).contains c = sh := by rw [HSH.out, List.take_of_length_le (show Lx.shorts.length ≤ k by simp [Lx.shorts]; omega)]
      rw [hfin]
      clear hfin HSH
      cases sh
      all_goals
        go_wp2_with fail
        go_ret
        exact ⟨rfl, rfl⟩

theorem rend_any (a : Option Addr) (cap : Nat) (l : List UInt8) (hl : l.length ≤ 100000) (hcap : l.length ≤ cap) (i : Nat) (c : UInt8) (r : List UInt8) (hd : l.drop i = c :: r) (w : World) (hh : Holds w a l) :
    Calls Tryd.prog 20 #[.slice a l.length cap, .int .i64 (i : Int)] w fun e w' => e = .returned (.int .i64 ((match span c r with | some n => i + n | none => 0 : Nat) : Int)) ∧ w = w' := by
  have hi : i < l.length := by
    rcases Nat.lt_or_ge i l.length with h | h
    · exact h
    · rw [List.drop_of_length_le h] at hd; cases hd
  have hd2 := List.drop_eq_getElem_cons hi
  rw [hd] at hd2
  injection hd2 with e1 e2
  rcases hh with h0 | ⟨b, off, rfl, hb, hc⟩
  · rw [h0] at hi; simp at hi
  unfold span
  by_cases hlow : Wd.low c = true
  · rw [if_pos hlow, e2]
    exact end_word b off cap l hl i hi w hc (by rw [← e1]; exact hlow)
  · rw [if_neg hlow]
    have hlow' : Wd.lowI (c.toNat : Int) = false := by simpa [Wd.low] using hlow
    by_cases hdig : (Lx.dig c || c == 126) = true
    · rw [if_pos hdig, e2]
      exact end_num b off cap l hl i hi w hc (by rw [← e1]; exact hlow') (by rw [← e1, c126]; exact hdig)
    · rw [if_neg hdig]
      have hdig' : Lx.dig c = false ∧ (c == 126) = false := by simpa using hdig
      by_cases h34 : (c == 34) = true
      · rw [if_pos h34]
        refine end_str b off cap l hl i hi w hc (by rw [← e1]; simpa using h34) _ ?_
        rw [← e2]
        by_cases hq : (r.takeWhile Lx.notQ).length < r.length
        · rw [if_pos hq, if_pos hq]
        · rw [if_neg hq, if_neg hq]
      · rw [if_neg h34]
        have hsub := sub_bytes cap hcap (Or.inr ⟨b, off, rfl, hb, hc⟩ : Holds w (some ⟨b, off, none⟩) l) i (min (i + 2) l.length) (by omega) (by omega)
        obtain ⟨a', hsl, hh'⟩ := hsub
        have hlen : ((l.drop i).take (min (i + 2) l.length - i)).length = min (i + 2) l.length - i := by rw [List.length_take, List.length_drop]; omega
        have hcv := conv_holds hh' (min (i + 2) l.length - i) (cap - i) hlen.symm
        have htwo : (l.drop i).take (min (i + 2) l.length - i) = c :: r.take 1 := by
          rw [hd]
          have hrl : (c :: r).length = l.length - i := by rw [← hd]; simp
          cases r with
          | nil => simp at hrl; rw [show min (i + 2) l.length - i = 1 from by omega]; rfl
          | cons d r => simp at hrl; rw [show min (i + 2) l.length - i = 2 from by omega]; rfl
        rw [htwo] at hcv
        have hm : ((min (i + 2) l.length : Nat) : Int) = min ((i : Int) + 2) (l.length : Int) := by omega
        rw [hm] at hsl
        have hlg : Lx.long c (r.getD 0 0) = (c :: r.take 1 == [45, 62] || c :: r.take 1 == [58, 58] || c :: r.take 1 == [61, 61]) := by
          cases r with
          | nil => simp [Lx.long]
          | cons d r => simp [Lx.long]
        refine (end_sign a' b off cap l (c :: r.take 1) hl i hi c w (by rw [e1]; exact hc i hi) hlow' hdig'.1 (by rw [c126]; exact hdig'.2) (by rw [c34]; simpa using h34) _ _ hsl hcv (Lx.long c (r.getD 0 0)) (Lx.shorts.contains c) hlg rfl).mono ?_
        rintro e w' ⟨rfl, rfl⟩
        refine ⟨ret_int ?_, rfl⟩
        cases Lx.long c (r.getD 0 0) <;> cases Lx.shorts.contains c <;> simp <;> rfl

/-! ### token -/
def PR : Option Lx.Bare → Bool → Int → ByteArray → Int → Prop
  | some b, q, k, s, n => q = true ∧ k = (b.kind : Int) ∧ s = ⟨b.s.toArray⟩ ∧ n = b.n
  | none, q, _, _, _ => q = false
def TokR (o : Option Lx.Bare) (f t0 : Nat) (w : World) (e : Ending) (w' : World) : Prop :=
  ∃ (q : Bool) (k : Int) (s : ByteArray) (n : Int), PR o q k s n ∧ e = .returned (.tuple #[.agg #[.int .i64 k, .int .i64 (f : Int), .int .i64 (t0 : Int), .string s, .int .i64 n], .bool q]) ∧ Below w.heap.size w w'

set_option maxRecDepth 100000 in
set_option maxHeartbeats 2000000 in
theorem token_word (a : Option Addr) (b off cap : Nat) (l x : List UInt8) (i j : Nat) (hl : x.length ≤ 17000) (c : UInt8) (w : World) (hi : i < l.length) (hcell : ∀ o1 o2, ((w.alloc o1).alloc o2).cell? ⟨b, off + i, none⟩ = some (.int .u8 (c.toNat : Int)))
    (m c' : Nat)
    (hsl : ∀ w' : World, (Instr.slice 22 (.slice (some ⟨b, off, none⟩) l.length cap) (some (.int .i64 (i : Int))) (some (.int .i64 (j : Int))) none).run Tryd.prog w' = .ok (.slice a m c') w')
    (hcv : ∀ o1 o2, (convert 22 9 (.slice a m c')).run Tryd.prog ((w.alloc o1).alloc o2) = .ok (.string ⟨x.toArray⟩) ((w.alloc o1).alloc o2))
    (c1 : Wd.lowI (c.toNat : Int) = true) :
    Calls Tryd.prog 21 #[.slice (some ⟨b, off, none⟩) l.length cap, .int .i64 (i : Int), .int .i64 (j : Int)] w (TokR (Lx.wordT x) i j w) := by
  have hk := rkey_any x (by omega)
  have hn := rname_any x (by omega)
  cases q1 : Wd.key x
  · cases q2 : Wd.name x
    · have hp : PR (Lx.wordT x) false 1 ⟨x.toArray⟩ 0 := by rw [Lx.wordT, q1, q2]; rfl
      rw [q1] at hk; rw [q2] at hn
      have HK := Lib.hid hk; have HN := Lib.hid hn; have HP := Lib.hid hp
      clear hk hn q1 q2 hp
      go_enter Tryd.func21, Tryd.ntmps21
      go_wp2_with (first | (go_at_call 24; refine (rlower_any _ _).mono ?_; rintro e w' ⟨rfl, rfl⟩) | (go_at_call 15; refine (HK.out _).mono ?_; rintro e w' ⟨rfl, rfl⟩))
      go_region_with (go_at_call 16; refine (HN.out _).mono ?_; rintro e w' ⟨rfl, rfl⟩)
      all_goals
        go_wp2_with fail
        exact bodyPost_ret (v := .tuple #[.agg #[.int .i64 1, .int .i64 (i : Int), .int .i64 (j : Int), .string ⟨x.toArray⟩, .int .i64 0], .bool false]) (by simp [results, Tryd.results21, go_sem]) rfl ⟨_, _, _, _, HP.out, rfl, (((Below.refl _ _).alloc (Nat.le_refl _) _).alloc (by simp) _).drew⟩
    · have hp : PR (Lx.wordT x) true 1 ⟨x.toArray⟩ 0 := by rw [Lx.wordT, q1, q2]; exact ⟨rfl, rfl, rfl, rfl⟩
      rw [q1] at hk; rw [q2] at hn
      have HK := Lib.hid hk; have HN := Lib.hid hn; have HP := Lib.hid hp
      clear hk hn q1 q2 hp
      go_enter Tryd.func21, Tryd.ntmps21
      go_wp2_with (first | (go_at_call 24; refine (rlower_any _ _).mono ?_; rintro e w' ⟨rfl, rfl⟩) | (go_at_call 15; refine (HK.out _).mono ?_; rintro e w' ⟨rfl, rfl⟩))
      go_region_with (go_at_call 16; refine (HN.out _).mono ?_; rintro e w' ⟨rfl, rfl⟩)
      all_goals
        go_wp2_with fail
        exact bodyPost_ret (v := .tuple #[.agg #[.int .i64 1, .int .i64 (i : Int), .int .i64 (j : Int), .string ⟨x.toArray⟩, .int .i64 0], .bool true]) (by simp [results, Tryd.results21, go_sem]) rfl ⟨_, _, _, _, HP.out, rfl, (((Below.refl _ _).alloc (Nat.le_refl _) _).alloc (by simp) _).drew⟩
  · have hp : PR (Lx.wordT x) true 2 ⟨x.toArray⟩ 0 := by rw [Lx.wordT, q1]; exact ⟨rfl, rfl, rfl, rfl⟩
    rw [q1] at hk
    have HK := Lib.hid hk; have HP := Lib.hid hp
    clear hk hn q1 hp
    go_enter Tryd.func21, Tryd.ntmps21
    go_wp2_with (first | (go_at_call 24; refine (rlower_any _ _).mono ?_; rintro e w' ⟨rfl, rfl⟩) | (go_at_call 15; refine (HK.out _).mono ?_; rintro e w' ⟨rfl, rfl⟩))
    exact bodyPost_ret (v := .tuple #[.agg #[.int .i64 2, .int .i64 (i : Int), .int .i64 (j : Int), .string ⟨x.toArray⟩, .int .i64 0], .bool true]) (by simp [results, Tryd.results21, go_sem]) rfl ⟨_, _, _, _, HP.out, rfl, ((Below.refl _ _).alloc (Nat.le_refl _) _).alloc (by simp) _⟩

set_option maxRecDepth 100000 in
set_option maxHeartbeats 2000000 in
theorem token_num (a : Option Addr) (b off cap : Nat) (l x : List UInt8) (i j : Nat) (hl : x.length ≤ 17000) (c : UInt8) (w : World) (hi : i < l.length) (hcell : ∀ o1 o2, ((w.alloc o1).alloc o2).cell? ⟨b, off + i, none⟩ = some (.int .u8 (c.toNat : Int)))
    (m c' : Nat)
    (hsl : ∀ w' : World, (Instr.slice 22 (.slice (some ⟨b, off, none⟩) l.length cap) (some (.int .i64 (i : Int))) (some (.int .i64 (j : Int))) none).run Tryd.prog w' = .ok (.slice a m c') w')
    (hcv : ∀ o1 o2, (convert 22 9 (.slice a m c')).run Tryd.prog ((w.alloc o1).alloc o2) = .ok (.string ⟨x.toArray⟩) ((w.alloc o1).alloc o2))
    (c1 : Wd.lowI (c.toNat : Int) = false) (hd : (digI (c.toNat : Int) || (c.toNat : Int) == 126) = true) :
    Calls Tryd.prog 21 #[.slice (some ⟨b, off, none⟩) l.length cap, .int .i64 (i : Int), .int .i64 (j : Int)] w (TokR (Lx.numT x) i j w) := by
  obtain ⟨N, E, q, hpn, hE, hp⟩ : ∃ (N E : Int) (q : Bool), (∀ w, Calls Tryd.prog 37 #[.string ⟨x.toArray⟩] w fun e w' => e = .returned (.tuple #[.int .i64 N, .int .i64 E]) ∧ w = w') ∧ (E == 0) = q ∧ PR (Lx.numT x) q 3 ⟨#[]⟩ N := by
    cases h : Lx.pnum x with
    | none => exact ⟨0, 3, false, fun w => rparse_no x (by omega) (Lx.pnum_none h) w, rfl, by rw [Lx.numT, h]; rfl⟩
    | some n =>
      obtain ⟨h1, h2⟩ := Lx.pnum_some h
      refine ⟨n, 0, true, fun w => ?_, rfl, by rw [Lx.numT, h]; exact ⟨rfl, rfl, rfl, rfl⟩⟩
      have := rparse_yes n h1 w
      rw [h2] at this; exact this
  have HPN := Lib.hid hpn; have HP := Lib.hid hp
  clear hpn hp
  generalize (c.toNat : Int) = cc at *
  cases hd1 : digI cc <;> cases hd2 : (cc == 126) <;> first | (rw [hd1, hd2] at hd; cases hd; done) | skip
  all_goals
    clear hd
    go_enter Tryd.func21, Tryd.ntmps21
    go_wp2_with (first | (go_at_call 24; refine (rlower_any _ _).mono ?_; rintro e w' ⟨rfl, rfl⟩) | (go_at_call 36; refine (rdigit_any _ _).mono ?_; rintro e w' ⟨rfl, rfl⟩) | (go_at_call 37; refine (HPN.out _).mono ?_; rintro e w' ⟨rfl, rfl⟩))
    exact bodyPost_ret (v := .tuple #[.agg #[.int .i64 3, .int .i64 (i : Int), .int .i64 (j : Int), .string ⟨#[]⟩, .int .i64 N], .bool q]) (by simp [results, Tryd.results21, go_sem]) rfl ⟨_, _, _, _, HP.out, rfl, ((Below.refl _ _).alloc (Nat.le_refl _) _).alloc (by simp) _⟩

set_option maxRecDepth 100000 in
set_option maxHeartbeats 2000000 in
theorem token_sign (a : Option Addr) (b off cap : Nat) (l x : List UInt8) (i j : Nat) (c : UInt8) (w : World) (hi : i < l.length) (hcell : ∀ o1 o2, ((w.alloc o1).alloc o2).cell? ⟨b, off + i, none⟩ = some (.int .u8 (c.toNat : Int)))
    (m c' : Nat)
    (hsl : ∀ w' : World, (Instr.slice 22 (.slice (some ⟨b, off, none⟩) l.length cap) (some (.int .i64 (i : Int))) (some (.int .i64 (j : Int))) none).run Tryd.prog w' = .ok (.slice a m c') w')
    (hcv : ∀ o1 o2, (convert 22 9 (.slice a m c')).run Tryd.prog ((w.alloc o1).alloc o2) = .ok (.string ⟨x.toArray⟩) ((w.alloc o1).alloc o2))
    (c1 : Wd.lowI (c.toNat : Int) = false) (c2 : digI (c.toNat : Int) = false) (c3 : ((c.toNat : Int) == 126) = false) (c4 : ((c.toNat : Int) == 34) = false) (o : Option Lx.Bare) (hp : PR o true 5 ⟨x.toArray⟩ 0) :
    Calls Tryd.prog 21 #[.slice (some ⟨b, off, none⟩) l.length cap, .int .i64 (i : Int), .int .i64 (j : Int)] w (TokR o i j w) := by
  have HP := Lib.hid hp
  clear hp
  generalize (c.toNat : Int) = cc at *
  go_enter Tryd.func21, Tryd.ntmps21
  go_wp2_with (first | (go_at_call 24; refine (rlower_any _ _).mono ?_; rintro e w' ⟨rfl, rfl⟩) | (go_at_call 36; refine (rdigit_any _ _).mono ?_; rintro e w' ⟨rfl, rfl⟩))
  exact bodyPost_ret (v := .tuple #[.agg #[.int .i64 5, .int .i64 (i : Int), .int .i64 (j : Int), .string ⟨x.toArray⟩, .int .i64 0], .bool true]) (by simp [results, Tryd.results21, go_sem]) rfl ⟨_, _, _, _, HP.out, rfl, ((Below.refl _ _).alloc (Nat.le_refl _) _).alloc (by simp) _⟩

end Go.Proofs.YthiifacfkeibbaaDoor
