/- The walk of the law on literals. -/
import Derived.Test.YtmjoebndmlpphaaDoorLawNums
namespace Go.Proofs.YtmjoebndmlpphaaDoor
open Go Go.RowKit
open Go.Proofs

theorem hexAt_ok : ∀ k : Fin 16, 48 ≤ (Wd.hexAt k.val).toNat ∧ (Wd.hexAt k.val).toNat ≤ 102 := by decide +kernel
theorem qb_mem (c d : UInt8) (h : d ∈ Wd.qb c) : 32 ≤ d.toNat ∧ d.toNat ≤ 126 ∧ d.toNat ≠ 34 := by
  cases hp : Wd.plain c
  · rw [Wd.qb_hex hp] at h
    have hlt := c.toNat_lt
    simp only [List.mem_cons, List.not_mem_nil, or_false] at h
    rcases h with rfl | rfl | rfl
    · exact ⟨by decide, by decide, by decide⟩
    · have := hexAt_ok ⟨c.toNat / 16, by omega⟩; simp only [] at this; omega
    · have := hexAt_ok ⟨c.toNat % 16, by omega⟩; simp only [] at this; omega
  · rw [Wd.qb_plain hp] at h
    simp only [List.mem_singleton] at h
    subst h
    simp only [Wd.plain, Wd.plainI, Bool.and_eq_true, decide_eq_true_eq, bne_iff_ne] at hp
    omega
theorem body_mem (l : List UInt8) (d : UInt8) (h : d ∈ Wd.body l) : 32 ≤ d.toNat ∧ d.toNat ≤ 126 ∧ d.toNat ≠ 34 := by
  unfold Wd.body at h
  rw [List.mem_flatMap] at h
  obtain ⟨c, _, hd⟩ := h
  exact qb_mem c d hd
theorem quote_at (l : List UInt8) (k : Nat) (h : k < (Wd.quote l).length) : 32 ≤ ((Wd.quote l)[k]).toNat ∧ ((Wd.quote l)[k]).toNat ≤ 126 ∧ ((k = 0 ∨ k + 1 = (Wd.quote l).length) ∨ ((Wd.quote l)[k]).toNat ≠ 34) := by
  have hlen : (Wd.quote l).length = (Wd.body l).length + 2 := by simp [Wd.quote]
  cases k with
  | zero => exact ⟨by simp [Wd.quote], by simp [Wd.quote], Or.inl (Or.inl rfl)⟩
  | succ k =>
    by_cases hk : k < (Wd.body l).length
    · have e : (Wd.quote l)[k + 1] = (Wd.body l)[k] := by simp [Wd.quote, List.getElem_append_left hk]
      rw [e]
      have := body_mem l _ (List.getElem_mem hk)
      exact ⟨this.1, this.2.1, Or.inr this.2.2⟩
    · have hk2 : k = (Wd.body l).length := by omega
      have e : (Wd.quote l)[k + 1] = 34 := by subst hk2; simp [Wd.quote]
      rw [e]
      exact ⟨by decide, by decide, Or.inl (Or.inr (by omega))⟩
theorem quote_first (l : List UInt8) (h : 0 < (Wd.quote l).length) : (Wd.quote l)[0] = 34 := by simp [Wd.quote]
theorem quote_last (l : List UInt8) (h : (Wd.quote l).length - 1 < (Wd.quote l).length) : (Wd.quote l)[(Wd.quote l).length - 1] = 34 := by simp [Wd.quote]
theorem quote_len (l : List UInt8) : l.length + 2 ≤ (Wd.quote l).length ∧ (Wd.quote l).length ≤ 3 * l.length + 2 := by
  have := Wd.body_len l
  have hlen : (Wd.quote l).length = (Wd.body l).length + 2 := by simp [Wd.quote]
  omega

set_option maxHeartbeats 2000000 in
theorem texts_walk (l x : List UInt8) (hl : l.length ≤ 200) (hx1 : l.length + 2 ≤ x.length) (hx2 : x.length ≤ 3 * l.length + 2)
    (h0 : ∀ w, (Instr.index 9 (.string ⟨x.toArray⟩) (.int .i64 0)).run Tryd.prog w = .ok (.int .u8 34) w)
    (h1 : ∀ w, (Instr.index 9 (.string ⟨x.toArray⟩) (.int .i64 ((x.length : Int) - 1))).run Tryd.prog w = .ok (.int .u8 34) w)
    (hat : ∀ k (h : k < x.length), 32 ≤ (x[k]).toNat ∧ (x[k]).toNat ≤ 126 ∧ ((k = 0 ∨ k + 1 = x.length) ∨ (x[k]).toNat ≠ 34))
    (Q : ∀ w, Calls Tryd.prog 11 #[.string ⟨l.toArray⟩] w fun e w' => e = .returned (.tuple #[.string ⟨x.toArray⟩, .int .i64 0]) ∧ Below w.heap.size w w')
    (U : ∀ w, Calls Tryd.prog 13 #[.string ⟨x.toArray⟩] w fun e w' => e = .returned (.tuple #[.string ⟨l.toArray⟩, .int .i64 0]) ∧ Below w.heap.size w w')
    (w : World) (hg : Good w) :
    Calls Tryd.prog 5 #[.string ⟨l.toArray⟩] w fun e w' => e = .returned (.bool true) ∧ Below w.heap.size w w' := by
  have HG := Lib.hid hg; have HQ := Lib.hid Q; have HU := Lib.hid U; have HAT := Lib.hid hat
  have hix := idx x
  have HIX := Lib.hid hix
  clear hg Q U hat hix
  go_enter Tryd.func5, Tryd.ntmps5
  go_wp2_with fail
  refine (HQ.out _).mono ?_
  rintro e w1 ⟨rfl, hb1⟩
  go_wp2_with fail
  refine (HU.out _).mono ?_
  rintro e w2 ⟨rfl, hb2⟩
  have hb := hb1.trans (hb2.mono hb1.size)
  have hg2 := Lib.hid (HG.out.below hb)
  clear hb1 hb2
  go_wp2_with fail
  go_loop [7] (fun i => ∃ k : Nat, k ≤ x.length ∧ i = .int .i64 k) (fun i => x.length - (intOf i).toNat)
  case atStart => exact ⟨0, Nat.zero_le _, rfl⟩
  case round =>
    obtain ⟨k, hk, rfl⟩ := hrel
    by_cases hlt : k < x.length
    · have hi := HIX.out k hlt
      obtain ⟨ha, hb', hc⟩ := HAT.out k hlt
      rcases hc with hc | hc
      · by_cases h34 : (x[k]).toNat = 34
        · have h34' : (((x[k]).toNat : Int) == 34) = true := by rw [beq_iff_eq]; omega
          clear h34
          rcases hc with hc | hc
          · have hk0 : k ≤ 0 := by omega
            clear hc
            go_wp2_with fail
            go_round
            case rel => exact ⟨k + 1, by omega, by go_num⟩
            case measure => simp [intOf]; omega
          · have hk0 : x.length ≤ k + 1 := by omega
            have hk1 : 0 < k := by omega
            clear hc
            go_wp2_with fail
            go_round
            case rel => exact ⟨k + 1, by omega, by go_num⟩
            case measure => simp [intOf]; omega
        · have h34' : (((x[k]).toNat : Int) == 34) = false := by rw [beq_eq_false_iff_ne]; omega
          clear h34 hc
          go_wp2_with fail
          go_round
          case rel => exact ⟨k + 1, by omega, by go_num⟩
          case measure => simp [intOf]; omega
      · have h34' : (((x[k]).toNat : Int) == 34) = false := by rw [beq_eq_false_iff_ne]; omega
        clear hc
        go_wp2_with fail
        go_round
        case rel => exact ⟨k + 1, by omega, by go_num⟩
        case measure => simp [intOf]; omega
    · go_wp2_with (go_at_call 21; refine (wakes_any _ hg2.out).mono ?_; rintro e w4 ⟨rfl, hb4⟩)
      go_ret
      exact ⟨rfl, hb.trans (hb4.mono hb.size)⟩

set_option maxHeartbeats 1000000 in
theorem texts_500 (s : ByteArray) (h : 500 < s.size) (w : World) :
    Calls Tryd.prog 5 #[.string s] w fun e w' => e = .returned (.bool true) ∧ Below w.heap.size w w' := by
  go_enter Tryd.func5, Tryd.ntmps5
  go_wp2_with fail
  go_ret
  exact ⟨rfl, Below.refl _ _⟩

set_option maxHeartbeats 1000000 in
theorem texts_big (s : ByteArray) (h : s.size ≤ 500) (h2 : 200 < s.size) (w : World) (hg : Good w) :
    Calls Tryd.prog 5 #[.string s] w fun e w' => e = .returned (.bool true) ∧ Below w.heap.size w w' := by
  have HG := Lib.hid hg; clear hg
  go_enter Tryd.func5, Tryd.ntmps5
  go_wp2_with (first | (go_at_call 11; refine (quote_big _ h2 _).mono ?_; rintro e w4 ⟨rfl, rfl⟩) | (go_at_call 21; refine (wakes_any _ HG.out).mono ?_; rintro e w4 ⟨rfl, hb4⟩))
  go_ret
  exact ⟨rfl, hb4⟩

theorem walk_wordTexts (s : ByteArray) (hs : s.size ≤ maxLen) (w : World) (hg : Good w) :
    Calls Tryd.prog 5 #[.string s] w fun e w' => e = .returned (.bool true) ∧ Below w.heap.size w w' := by
  by_cases h5 : 500 < s.size
  · exact texts_500 s h5 w
  by_cases h2 : 200 < s.size
  · exact texts_big s (by omega) h2 w hg
  obtain ⟨l, hl⟩ : ∃ l, s.data.toList = l := ⟨_, rfl⟩
  have hsz : l.length = s.size := by rw [← hl]; simp
  have e : s = ⟨l.toArray⟩ := by rw [← hl]; first | done | exact (Lib.mk_data s).symm
  subst e
  obtain ⟨hx1, hx2⟩ := quote_len l
  have hq := quote_any ⟨l.toArray⟩ (by omega)
  have hu := unq_yes ⟨(Wd.quote l).toArray⟩ l (by omega) (by simp)
  have e2 : ({ data := l.toArray } : ByteArray).data.toList = l := by simp
  rw [e2] at hq
  refine texts_walk l (Wd.quote l) (by omega) hx1 hx2 ?_ ?_ (quote_at l) hq hu w hg
  · intro w
    have := idx (Wd.quote l) 0 (by omega) w
    rw [quote_first] at this
    exact this
  · intro w
    have := idx (Wd.quote l) ((Wd.quote l).length - 1) (by omega) w
    rw [quote_last] at this
    rw [show (((Wd.quote l).length : Int) - 1) = (((Wd.quote l).length - 1 : Nat) : Int) from by omega]
    exact this
end Go.Proofs.YtmjoebndmlpphaaDoor
