/- Walks: the page's own answers: digits, Num. -/
import Derived.Test.YthiifacfkeibbaaDoorRefA
namespace Go.Proofs.YthiifacfkeibbaaDoor
open Go Go.RowKit
open Go.Proofs

theorem dig_slice64 (d : Nat) (h : d < 10) : ∀ w : World, (Instr.slice 9 (.string { data := #[48, 49, 50, 51, 52, 53, 54, 55, 56, 57] }) (some (.int .u64 (d : Int))) (some (.int .u64 ((d : Int) + 1))) none).run Tryd.prog w = .ok (.string { data := #[UInt8.ofNat (48 + d)] }) w :=
  match d, h with
  | 0, _ => fun _ => by kernel_rfl
  | 1, _ => fun _ => by kernel_rfl
  | 2, _ => fun _ => by kernel_rfl
  | 3, _ => fun _ => by kernel_rfl
  | 4, _ => fun _ => by kernel_rfl
  | 5, _ => fun _ => by kernel_rfl
  | 6, _ => fun _ => by kernel_rfl
  | 7, _ => fun _ => by kernel_rfl
  | 8, _ => fun _ => by kernel_rfl
  | 9, _ => fun _ => by kernel_rfl
  | _ + 10, h => absurd h (by omega)

/-- What the loop over the digits keeps. -/
def DigInv (U v : Nat) (t : List UInt8) : Prop :=
  (t = [] ∧ v = U) ∨ (t ≠ [] ∧ 0 < v ∧ Lib.decDigits U = Lib.decDigits v ++ t) ∨ (t ≠ [] ∧ v = 0 ∧ Lib.decDigits U = t)
theorem dinv_step {U v : Nat} {t : List UInt8} (h : DigInv U v t) (h9 : 9 < v) : DigInv U (v / 10) (UInt8.ofNat (48 + v % 10) :: t) := by
  have e : Lib.decDigits v = Lib.decDigits (v / 10) ++ [UInt8.ofNat (48 + v % 10)] := by
    rw [Lib.decDigits, dif_neg (by omega)]
  rcases h with ⟨rfl, rfl⟩ | ⟨_, _, h3⟩ | ⟨_, h2, _⟩
  · exact Or.inr (Or.inl ⟨by simp, by omega, e⟩)
  · refine Or.inr (Or.inl ⟨by simp, by omega, ?_⟩)
    rw [h3, e]; simp
  · omega
theorem dinv_len {U v : Nat} {t : List UInt8} (h : DigInv U v t) (hU : U < 18446744073709551616) : t.length ≤ 20 := by
  have h1 := Wd.dec_len20 U hU
  rcases h with ⟨rfl, _⟩ | ⟨_, _, h3⟩ | ⟨_, _, h3⟩
  · simp
  · rw [h3] at h1; simp at h1; omega
  · rw [h3] at h1; omega

set_option maxHeartbeats 2000000 in
theorem rdigits_any (U : Int) (h0 : 0 ≤ U) (h1 : U ≤ 9223372036854775808) (w : World) :
    Calls Tryd.prog 23 #[.int .u64 U] w fun e w' => e = .returned (.string ⟨(Lib.decDigits U.toNat).toArray⟩) ∧ w = w' := by
  have hU : U.toNat < 18446744073709551616 := by omega
  have HU := Lib.hid hU; clear hU
  go_enter Tryd.func23, Tryd.ntmps23
  go_wp2_with fail
  go_loop [0, 3] (fun uv sv => ∃ (v : Int) (t : List UInt8), uv = .int .u64 v ∧ sv = .string ⟨t.toArray⟩ ∧ 0 ≤ v ∧ v ≤ 9223372036854775808 ∧ DigInv U.toNat v.toNat t) (fun uv sv => 2 * (intOf uv).toNat + (1 - strLen sv))
  case atStart => exact ⟨U, [], rfl, rfl, h0, h1, Or.inl ⟨rfl, rfl⟩⟩
  case round =>
    obtain ⟨v, t, rfl, rfl, hv0, hv1, hinv⟩ := hrel
    have htl := dinv_len hinv HU.out
    have HI := Lib.hid hinv; clear hinv
    by_cases h9 : 9 < v
    · obtain ⟨d, hd⟩ : ∃ d : Nat, v % 10 = (d : Int) := ⟨(v % 10).toNat, by omega⟩
      have hsl := dig_slice64 d (by omega)
      rw [← hd] at hsl
      have hst := dinv_step HI.out (by omega)
      have e1 : v.toNat / 10 = (v / 10).toNat := by omega
      have e2 : v.toNat % 10 = d := by omega
      rw [e1, e2] at hst
      have HS := Lib.hid hst
      have HD := Lib.hid hd
      clear hd hst e1 e2
      go_wp2_with fail
      go_round
      case rel => exact ⟨_, UInt8.ofNat (48 + d) :: t, rfl, by (congr 1; apply ba_ext2; simp), by omega, by omega, HS.out⟩
      case measure => simp [intOf]; omega
    · by_cases ht : t = []
      · subst ht
        by_cases hz : v = 0
        · subst hz
          have hsl := dig_slice64 0 (by omega)
          have hsl' : ∀ w : World, (Instr.slice 9 (.string { data := #[48, 49, 50, 51, 52, 53, 54, 55, 56, 57] }) (some (.int .u64 0)) (some (.int .u64 1)) none).run Tryd.prog w = .ok (.string { data := #[48] }) w := hsl
          have hst : DigInv U.toNat 0 [48] := by
            rcases HI.out with ⟨_, h⟩ | ⟨h, _⟩ | ⟨h, _⟩
            · refine Or.inr (Or.inr ⟨by simp, rfl, ?_⟩)
              rw [← h]; exact Lib.decDigits_one (i := 0) (by decide)
            · exact absurd rfl h
            · exact absurd rfl h
          have HS := Lib.hid hst; clear hst hsl
          go_wp2_with fail
          go_round
          case rel => exact ⟨0, [48], rfl, rfl, by omega, by omega, HS.out⟩
          case measure => simp [intOf, strLen, Lib.size_eq]
        · obtain ⟨d, hd⟩ : ∃ d : Nat, v = (d : Int) := ⟨v.toNat, by omega⟩
          subst hd
          have hsl := dig_slice64 d (by omega)
          have hfin : Lib.decDigits U.toNat = [UInt8.ofNat (48 + d)] := by
            rcases HI.out with ⟨_, h⟩ | ⟨h, _⟩ | ⟨h, _⟩
            · rw [← h, Int.toNat_natCast, Lib.decDigits, dif_pos (by omega)]
            · exact absurd rfl h
            · exact absurd rfl h
          have HF := Lib.hid hfin; clear hfin
          have hd0 : (0 : Int) < (d : Int) := by omega
          have hdz : ((d : Int) == 0) = false := by rw [beq_eq_false_iff_ne]; omega
          clear hz
          go_wp2_with fail
          go_ret
          exact ⟨ret_string (by rw [HF.out]; simp), rfl⟩
      · have hte : t.isEmpty = false := by
          cases t with
          | nil => exact absurd rfl ht
          | cons a r => rfl
        have HNE := Lib.hid ht; clear ht
        by_cases hz : v = 0
        · subst hz
          have hfin : Lib.decDigits U.toNat = t := by
            rcases HI.out with ⟨h, _⟩ | ⟨_, h, _⟩ | ⟨_, _, h⟩
            · exact absurd h HNE.out
            · exact absurd h (by decide)
            · exact h
          have HF := Lib.hid hfin; clear hfin
          go_wp2_with fail
          go_ret
          exact ⟨ret_string (by rw [HF.out]), rfl⟩
        · obtain ⟨d, hd⟩ : ∃ d : Nat, v = (d : Int) := ⟨v.toNat, by omega⟩
          subst hd
          have hsl := dig_slice64 d (by omega)
          have hfin : Lib.decDigits U.toNat = UInt8.ofNat (48 + d) :: t := by
            rcases HI.out with ⟨h, _⟩ | ⟨_, _, h⟩ | ⟨_, h, _⟩
            · exact absurd h HNE.out
            · rw [h, Int.toNat_natCast, Lib.decDigits, dif_pos (by omega)]; rfl
            · simp at h; omega
          have HF := Lib.hid hfin; clear hfin
          have hd0 : (0 : Int) < (d : Int) := by omega
          clear hz
          go_wp2_with fail
          go_ret
          exact ⟨ret_string (by rw [HF.out]; simp), rfl⟩

set_option maxHeartbeats 1000000 in
theorem rnum_any (n : Int) (h : Wd.inI64 n) (w : World) :
    Calls Tryd.prog 14 #[.int .i64 n] w fun e w' => e = .returned (.string ⟨(Wd.num n).toArray⟩) ∧ w = w' := by
  obtain ⟨hlo, hhi⟩ := h
  have hlen := Wd.dec_len20 n.natAbs (by omega)
  by_cases hn : n < 0
  · obtain ⟨e1, _⟩ := Wd.num_neg hn
    have E1 := Lib.hid e1; clear e1
    have ea : (-(n + 1) + 1).toNat = n.natAbs := by omega
    have EA := Lib.hid ea; clear ea
    go_enter Tryd.func14, Tryd.ntmps14
    go_wp2_with fail
    refine (rdigits_any _ (by omega) (by omega) _).mono ?_
    rintro e w' ⟨rfl, rfl⟩
    rw [EA.out]
    go_wp2_with fail
    go_ret
    exact ⟨ret_string (by rw [E1.out]; simp), rfl⟩
  · obtain ⟨e1, _⟩ := Wd.num_pos hn
    have E1 := Lib.hid e1; clear e1
    go_enter Tryd.func14, Tryd.ntmps14
    go_wp2_with fail
    refine (rdigits_any _ (by omega) (by omega) _).mono ?_
    rintro e w' ⟨rfl, rfl⟩
    go_wp2_with fail
    go_ret
    exact ⟨ret_string (by rw [E1.out]), rfl⟩
end Go.Proofs.YthiifacfkeibbaaDoor
