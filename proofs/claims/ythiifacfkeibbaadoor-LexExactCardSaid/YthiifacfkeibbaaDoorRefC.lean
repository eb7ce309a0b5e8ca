/- Walks: the page's own answer: ParseNum. -/
import Derived.Test.YthiifacfkeibbaaDoorRefB
import Derived.Test.YthiifacfkeibbaaDoorWalkC
namespace Go.Proofs.YthiifacfkeibbaaDoor
open Go Go.RowKit
open Go.Proofs

theorem ret_i2 {a b c d : Int} (h1 : a = c) (h2 : b = d) : Ending.returned (.tuple #[.int .i64 a, .int .i64 b]) = .returned (.tuple #[.int .i64 c, .int .i64 d]) := by rw [h1, h2]

set_option maxRecDepth 100000 in
set_option maxHeartbeats 2000000 in
theorem rp_pos (t : List UInt8) (hl1 : 1 ≤ t.length) (hl2 : t.length ≤ 19) (R E : Int)
    (v0 : Int) (hx0 : ∀ w, (Instr.index 9 (.string ⟨t.toArray⟩) (.int .i64 0)).run Tryd.prog w = .ok (.int .u8 v0) w) (h126 : (v0 == 126) = false) (h48 : t.length ≤ 1 ∨ (v0 == 48) = false)
    (hend : ∀ ds, t = Wd.digs ds → (∀ d ∈ ds, d < 10) → (Wd.val ds ≤ 9223372036854775807 ∧ R = (Wd.val ds : Int) ∧ E = 0) ∨ (9223372036854775807 < Wd.val ds ∧ R = 0 ∧ E = 3))
    (hnd : ∀ k (h : k < t.length), digI ((t[k]).toNat : Int) = false → R = 0 ∧ E = 3) (w : World) :
    Calls Tryd.prog 37 #[.string ⟨t.toArray⟩] w fun e w' => e = .returned (.tuple #[.int .i64 R, .int .i64 E]) ∧ w = w' := by
  have hix := idx t
  have HIX := Lib.hid hix; have HE := Lib.hid hend; have HND := Lib.hid hnd; have H48 := Lib.hid h48
  clear hix hend hnd h48
  have h48' : t.length ≤ 1 ∨ (1 < t.length ∧ (v0 == 48) = false) := by
    rcases H48.out with h | h
    · exact Or.inl h
    · by_cases h1 : t.length ≤ 1
      · exact Or.inl h1
      · exact Or.inr ⟨by omega, h⟩
  clear H48
  rcases h48' with h48 | ⟨h1l, h48⟩
  all_goals
    go_enter Tryd.func37, Tryd.ntmps37
    go_wp2_with fail
    clear hx0
    go_loop [6, 7] (fun u i => ∃ (k : Nat) (Bi : Int) (ds : List Nat), k ≤ t.length ∧ i = .int .i64 k ∧ u = .int .u64 Bi ∧ Bi = (Wd.val ds : Int) ∧ ds.length = k ∧ (∀ d ∈ ds, d < 10) ∧ t.take k = Wd.digs ds) (fun _ i => t.length - (intOf i).toNat)
    case atStart => exact ⟨0, 0, [], Nat.zero_le _, rfl, rfl, rfl, rfl, by simp, by simp [Wd.digs]⟩
    case round =>
      obtain ⟨k, Bi, ds, hk, rfl, rfl, hBi, hdl, hd10, hds⟩ := hrel
      have hB0 : 0 ≤ Bi := by rw [hBi]; omega
      have HB := Lib.hid hBi; have HDL := Lib.hid hd10; have HDS := Lib.hid hds; have HLEN := Lib.hid hdl
      clear hBi hd10 hds hdl
      by_cases hlt : k < t.length
      · have hi := HIX.out k hlt
        have hB1 : Bi < 1000000000000000000 := by
          rw [HB.out]
          have h1 := Wd.val_lt ds HDL.out
          have h2 : 10 ^ ds.length ≤ 10 ^ 18 := Nat.pow_le_pow_right (by decide) (by rw [HLEN.out]; omega)
          have h3 : (10 : Nat) ^ 18 = 1000000000000000000 := by decide
          omega
        by_cases hq : digI ((t[k]).toNat : Int) = true
        · have hb2 : 48 ≤ ((t[k]).toNat : Int) ∧ ((t[k]).toNat : Int) ≤ 57 := by simp [digI] at hq; omega
          obtain ⟨hv1, hv2⟩ := hb2
          obtain ⟨d, hd⟩ : ∃ d : Nat, (t[k]).toNat = 48 + d := ⟨(t[k]).toNat - 48, by omega⟩
          have hnext : t.take (k + 1) = Wd.digs (ds ++ [d]) := by
            rw [List.take_succ_eq_append_getElem hlt, HDS.out, Wd.digs_snoc]
            congr 1
            have hh : t[k] = UInt8.ofNat (48 + d) := by rw [← hd]; simp
            rw [hh]
          have HN := Lib.hid hnext; have HD := Lib.hid hd
          clear hnext hd
          generalize hvv : ((t[k]).toNat : Int) = v at *
          have HVV := Lib.hid hvv; clear hvv
          go_wp2_with (go_at_call 36; refine (rdigit_any _ _).mono ?_; rintro e w' ⟨rfl, rfl⟩)
          go_round
          case rel =>
            refine ⟨k + 1, _, ds ++ [d], by omega, by go_num, rfl, ?_, by rw [List.length_append, HLEN.out]; rfl, ?_, HN.out⟩
            · rw [Wd.val_snoc, HB.out, ← HVV.out, HD.out]; omega
            · intro x hx
              rcases List.mem_append.1 hx with hx | hx
              · exact HDL.out x hx
              · simp only [List.mem_singleton] at hx
                have := HD.out; have := HVV.out; omega
          case measure => simp [intOf]; omega
        · have hq' : digI ((t[k]).toNat : Int) = false := by simpa using hq
          obtain ⟨r1, r2⟩ := HND.out k hlt hq'
          have R1 := Lib.hid r1; have R2 := Lib.hid r2
          clear hq r1 r2
          go_wp2_with (go_at_call 36; refine (rdigit_any _ _).mono ?_; rintro e w' ⟨rfl, rfl⟩)
          go_ret2
          exact ⟨ret_i2 R1.out.symm R2.out.symm, rfl⟩
      · have hke : k = t.length := by omega
        have HKE := Lib.hid hke; clear hke
        rcases HE.out ds (by rw [← HDS.out, List.take_of_length_le (by omega)]) HDL.out with ⟨e1, e3, e4⟩ | ⟨e1, e3, e4⟩
        · have hV0 : 0 ≤ Bi := by rw [HB.out]; omega
          have hV1 : Bi ≤ 9223372036854775807 := by rw [HB.out]; omega
          rw [← HB.out] at e3
          have H3 := Lib.hid e3; have H4 := Lib.hid e4
          clear e1 e3 e4
          go_wp2_with fail
          go_ret2
          exact ⟨ret_i2 H3.out.symm H4.out.symm, rfl⟩
        · have hV1 : 9223372036854775807 < Bi := by rw [HB.out]; omega
          have H3 := Lib.hid e3; have H4 := Lib.hid e4
          clear e1 e3 e4
          go_wp2_with fail
          go_ret2
          exact ⟨ret_i2 H3.out.symm H4.out.symm, rfl⟩

set_option maxRecDepth 100000 in
set_option maxHeartbeats 2000000 in
theorem rp_neg (t : List UInt8) (hl1 : 1 ≤ t.length) (hl2 : t.length ≤ 19) (R E : Int)
    (h126 : ∀ w, (Instr.index 9 (.string ⟨(126 :: t).toArray⟩) (.int .i64 0)).run Tryd.prog w = .ok (.int .u8 126) w)
    (hcut : ∀ w, (Instr.slice 9 (.string ⟨(126 :: t).toArray⟩) (some (.int .i64 1)) none none).run Tryd.prog w = .ok (.string ⟨t.toArray⟩) w)
    (v0 : Int) (hx0 : ∀ w, (Instr.index 9 (.string ⟨t.toArray⟩) (.int .i64 0)).run Tryd.prog w = .ok (.int .u8 v0) w) (h48 : t.length ≤ 1 ∨ (v0 == 48) = false)
    (hend : ∀ ds, t = Wd.digs ds → (∀ d ∈ ds, d < 10) → (0 < Wd.val ds ∧ Wd.val ds ≤ 9223372036854775808 ∧ R = -(Wd.val ds : Int) ∧ E = 0) ∨ ((Wd.val ds = 0 ∨ 9223372036854775808 < Wd.val ds) ∧ R = 0 ∧ E = 3))
    (hnd : ∀ k (h : k < t.length), digI ((t[k]).toNat : Int) = false → R = 0 ∧ E = 3) (w : World) :
    Calls Tryd.prog 37 #[.string ⟨(126 :: t).toArray⟩] w fun e w' => e = .returned (.tuple #[.int .i64 R, .int .i64 E]) ∧ w = w' := by
  have hix := idx t
  have HIX := Lib.hid hix; have HE := Lib.hid hend; have HND := Lib.hid hnd; have H48 := Lib.hid h48
  clear hix hend hnd h48
  have h48' : t.length ≤ 1 ∨ (1 < t.length ∧ (v0 == 48) = false) := by
    rcases H48.out with h | h
    · exact Or.inl h
    · by_cases h1 : t.length ≤ 1
      · exact Or.inl h1
      · exact Or.inr ⟨by omega, h⟩
  clear H48
  rcases h48' with h48 | ⟨h1l, h48⟩
  all_goals
    go_enter Tryd.func37, Tryd.ntmps37
    go_wp2_with fail
    clear hx0
    go_loop [6, 7] (fun u i => ∃ (k : Nat) (Bi : Int) (ds : List Nat), k ≤ t.length ∧ i = .int .i64 k ∧ u = .int .u64 Bi ∧ Bi = (Wd.val ds : Int) ∧ ds.length = k ∧ (∀ d ∈ ds, d < 10) ∧ t.take k = Wd.digs ds) (fun _ i => t.length - (intOf i).toNat)
    case atStart => exact ⟨0, 0, [], Nat.zero_le _, rfl, rfl, rfl, rfl, by simp, by simp [Wd.digs]⟩
    case round =>
      obtain ⟨k, Bi, ds, hk, rfl, rfl, hBi, hdl, hd10, hds⟩ := hrel
      have hB0 : 0 ≤ Bi := by rw [hBi]; omega
      have HB := Lib.hid hBi; have HDL := Lib.hid hd10; have HDS := Lib.hid hds; have HLEN := Lib.hid hdl
      clear hBi hd10 hds hdl
      by_cases hlt : k < t.length
      · have hi := HIX.out k hlt
        have hB1 : Bi < 1000000000000000000 := by
          rw [HB.out]
          have h1 := Wd.val_lt ds HDL.out
          have h2 : 10 ^ ds.length ≤ 10 ^ 18 := Nat.pow_le_pow_right (by decide) (by rw [HLEN.out]; omega)
          have h3 : (10 : Nat) ^ 18 = 1000000000000000000 := by decide
          omega
        by_cases hq : digI ((t[k]).toNat : Int) = true
        · have hb2 : 48 ≤ ((t[k]).toNat : Int) ∧ ((t[k]).toNat : Int) ≤ 57 := by simp [digI] at hq; omega
          obtain ⟨hv1, hv2⟩ := hb2
          obtain ⟨d, hd⟩ : ∃ d : Nat, (t[k]).toNat = 48 + d := ⟨(t[k]).toNat - 48, by omega⟩
          have hnext : t.take (k + 1) = Wd.digs (ds ++ [d]) := by
            rw [List.take_succ_eq_append_getElem hlt, HDS.out, Wd.digs_snoc]
            congr 1
            have hh : t[k] = UInt8.ofNat (48 + d) := by rw [← hd]; simp
            rw [hh]
          have HN := Lib.hid hnext; have HD := Lib.hid hd
          clear hnext hd
          generalize hvv : ((t[k]).toNat : Int) = v at *
          have HVV := Lib.hid hvv; clear hvv
          go_wp2_with (go_at_call 36; refine (rdigit_any _ _).mono ?_; rintro e w' ⟨rfl, rfl⟩)
          go_round
          case rel =>
            refine ⟨k + 1, _, ds ++ [d], by omega, by go_num, rfl, ?_, by rw [List.length_append, HLEN.out]; rfl, ?_, HN.out⟩
            · rw [Wd.val_snoc, HB.out, ← HVV.out, HD.out]; omega
            · intro x hx
              rcases List.mem_append.1 hx with hx | hx
              · exact HDL.out x hx
              · simp only [List.mem_singleton] at hx
                have := HD.out; have := HVV.out; omega
          case measure => simp [intOf]; omega
        · have hq' : digI ((t[k]).toNat : Int) = false := by simpa using hq
          obtain ⟨r1, r2⟩ := HND.out k hlt hq'
          have R1 := Lib.hid r1; have R2 := Lib.hid r2
          clear hq r1 r2
          go_wp2_with (go_at_call 36; refine (rdigit_any _ _).mono ?_; rintro e w' ⟨rfl, rfl⟩)
          go_ret2
          exact ⟨ret_i2 R1.out.symm R2.out.symm, rfl⟩
      · have hke : k = t.length := by omega
        have HKE := Lib.hid hke; clear hke
        rcases HE.out ds (by rw [← HDS.out, List.take_of_length_le (by omega)]) HDL.out with ⟨e1, e2, e3, e4⟩ | ⟨e1 | e1, e3, e4⟩
        · have hV0 : 0 < Bi := by rw [HB.out]; omega
          have hV1 : Bi ≤ 9223372036854775808 := by rw [HB.out]; omega
          have hVz : (Bi == 0) = false := by rw [beq_eq_false_iff_ne]; omega
          rw [← HB.out] at e3
          have H3 := Lib.hid e3; have H4 := Lib.hid e4
          clear e1 e2 e3 e4
          go_wp2_with fail
          go_ret2
          exact ⟨ret_i2 (by rw [H3.out]; omega) H4.out.symm, rfl⟩
        · have hV0 : Bi = 0 := by rw [HB.out, e1]; rfl
          have hVz : (Bi == 0) = true := by rw [beq_iff_eq]; exact hV0
          have H3 := Lib.hid e3; have H4 := Lib.hid e4
          clear e1 e3 e4 hV0
          go_wp2_with fail
          go_ret2
          exact ⟨ret_i2 H3.out.symm H4.out.symm, rfl⟩
        · have hV1 : 9223372036854775808 < Bi := by rw [HB.out]; omega
          have hVz : (Bi == 0) = false := by rw [beq_eq_false_iff_ne]; omega
          have H3 := Lib.hid e3; have H4 := Lib.hid e4
          clear e1 e3 e4
          go_wp2_with fail
          go_ret2
          exact ⟨ret_i2 H3.out.symm H4.out.symm, rfl⟩

set_option maxRecDepth 100000 in
set_option maxHeartbeats 1000000 in
theorem rp_short_pos (t : List UInt8) (hl : t.length ≤ 20000)
    (v0 : Int) (hx0 : 0 < t.length → ∀ w, (Instr.index 9 (.string ⟨t.toArray⟩) (.int .i64 0)).run Tryd.prog w = .ok (.int .u8 v0) w) (h126 : (v0 == 126) = false)
    (h : t.length = 0 ∨ 19 < t.length ∨ (1 < t.length ∧ t.length ≤ 19 ∧ (v0 == 48) = true)) (w : World) :
    Calls Tryd.prog 37 #[.string ⟨t.toArray⟩] w fun e w' => e = .returned (.tuple #[.int .i64 0, .int .i64 3]) ∧ w = w' := by
  have HX := Lib.hid hx0; clear hx0
  rcases h with h | h | ⟨h1, h2, h3⟩
  · have hle : t.length ≤ 0 := by omega
    clear h
    go_enter Tryd.func37, Tryd.ntmps37
    go_wp2_with fail
    go_ret2
    exact ⟨rfl, rfl⟩
  · have hx := HX.out (by omega)
    go_enter Tryd.func37, Tryd.ntmps37
    go_wp2_with fail
    go_ret2
    exact ⟨rfl, rfl⟩
  · have hx := HX.out (by omega)
    go_enter Tryd.func37, Tryd.ntmps37
    go_wp2_with fail
    go_ret2
    exact ⟨rfl, rfl⟩

set_option maxRecDepth 100000 in
set_option maxHeartbeats 1000000 in
theorem rp_short_neg (t : List UInt8) (hl : t.length ≤ 20000)
    (h126 : ∀ w, (Instr.index 9 (.string ⟨(126 :: t).toArray⟩) (.int .i64 0)).run Tryd.prog w = .ok (.int .u8 126) w)
    (hcut : ∀ w, (Instr.slice 9 (.string ⟨(126 :: t).toArray⟩) (some (.int .i64 1)) none none).run Tryd.prog w = .ok (.string ⟨t.toArray⟩) w)
    (v0 : Int) (hx0 : 0 < t.length → ∀ w, (Instr.index 9 (.string ⟨t.toArray⟩) (.int .i64 0)).run Tryd.prog w = .ok (.int .u8 v0) w)
    (h : t.length = 0 ∨ 19 < t.length ∨ (1 < t.length ∧ t.length ≤ 19 ∧ (v0 == 48) = true)) (w : World) :
    Calls Tryd.prog 37 #[.string ⟨(126 :: t).toArray⟩] w fun e w' => e = .returned (.tuple #[.int .i64 0, .int .i64 3]) ∧ w = w' := by
  have HX := Lib.hid hx0; clear hx0
  rcases h with h | h | ⟨h1, h2, h3⟩
  · have hle : t.length ≤ 0 := by omega
    clear h
    go_enter Tryd.func37, Tryd.ntmps37
    go_wp2_with fail
    go_ret2
    exact ⟨rfl, rfl⟩
  · have hx := HX.out (by omega)
    go_enter Tryd.func37, Tryd.ntmps37
    go_wp2_with fail
    go_ret2
    exact ⟨rfl, rfl⟩
  · have hx := HX.out (by omega)
    go_enter Tryd.func37, Tryd.ntmps37
    go_wp2_with fail
    go_ret2
    exact ⟨rfl, rfl⟩

theorem cut1 (t : List UInt8) (w : World) : (Instr.slice 9 (.string ⟨(126 :: t).toArray⟩) (some (.int .i64 1)) none none).run Tryd.prog w = .ok (.string ⟨t.toArray⟩) w := by
  have h2 : (1 : Int) ≤ (({ data := (126 :: t).toArray } : ByteArray).size : Int) := by rw [Lib.size_eq]; simp; omega
  rw [run_slice_string_l w 9 _ Tryd.underlying9 .i64 1 (by decide) h2]
  congr 1
  congr 1
  apply ba_ext2
  rw [Lib.extract_data, Lib.size_eq]; simp

/-- The page reads a number's text as that number. -/
theorem rparse_yes (n : Int) (h : Wd.inI64 n) (w : World) :
    Calls Tryd.prog 37 #[.string ⟨(Wd.num n).toArray⟩] w fun e w' => e = .returned (.tuple #[.int .i64 n, .int .i64 0]) ∧ w = w' := by
  obtain ⟨h1, h2⟩ := h
  have hnd : ∀ ds : List Nat, (∀ d ∈ ds, d < 10) → ∀ k (h : k < (Wd.digs ds).length), digI (((Wd.digs ds)[k]).toNat : Int) = false → n = 0 ∧ (0 : Int) = 3 := by
    intro ds hd k hk hf
    exfalso
    simp only [Wd.digs, List.getElem_map] at hf
    have := hd (ds[k]'(by simpa [Wd.digs] using hk)) (List.getElem_mem _)
    rw [UInt8.toNat_ofNat'] at hf
    simp [digI] at hf
    omega
  have hlen : ∀ u : Nat, u ≤ 9223372036854775808 → ∀ ds : List Nat, Lib.decDigits u = Wd.digs ds → (Wd.digs ds).length ≤ 19 := by
    intro u hu ds he
    rw [← he]
    exact Wd.dec_len 18 u (by have : (10 : Nat) ^ (18 + 1) = 10000000000000000000 := by decide
                              omega)
  by_cases hn : n < 0
  · obtain ⟨ds, g1, g2, g3, g4, g5⟩ := Wd.dec_digs n.natAbs
    have e1 := (Wd.num_neg hn).1
    rw [g1] at e1
    rw [e1]
    have hl := hlen n.natAbs (by omega) ds g1
    have hl1 : 1 ≤ (Wd.digs ds).length := by
      rw [← g1]; have := Wd.dec_ne n.natAbs; exact Nat.pos_of_ne_zero fun e => this (List.eq_nil_of_length_eq_zero e)
    refine rp_neg (Wd.digs ds) hl1 hl n 0 (idx (126 :: Wd.digs ds) 0 (by simp)) (cut1 _) _ (idx (Wd.digs ds) 0 hl1) ?_ ?_ (hnd ds g3) w
    · cases ds with
      | nil => exact absurd rfl g2
      | cons c r =>
        have hc := g3 c (by simp)
        right
        rw [beq_eq_false_iff_ne]
        intro e
        simp only [Wd.digs, List.map_cons, List.getElem_cons_zero] at e
        rw [UInt8.toNat_ofNat'] at e
        have := (g5 (by simp; omega)).1
        omega
    · intro es he hes
      have := Wd.digs_inj ds es g3 hes he
      subst this
      exact Or.inl ⟨by omega, by omega, by omega, rfl⟩
  · obtain ⟨ds, g1, g2, g3, g4, g5⟩ := Wd.dec_digs n.toNat
    have e1 := (Wd.num_pos hn).1
    rw [g1] at e1
    rw [e1]
    have hl := hlen n.toNat (by omega) ds g1
    have hl1 : 1 ≤ (Wd.digs ds).length := by
      rw [← g1]; have := Wd.dec_ne n.toNat; exact Nat.pos_of_ne_zero fun e => this (List.eq_nil_of_length_eq_zero e)
    have hc : ∀ k (h : k < (Wd.digs ds).length), 48 ≤ ((Wd.digs ds)[k]).toNat ∧ ((Wd.digs ds)[k]).toNat ≤ 57 := by
      intro k hk
      have hm : (Wd.digs ds)[k] ∈ Lib.decDigits n.toNat := by rw [g1]; exact List.getElem_mem hk
      exact Wd.dec_digit _ _ hm
    refine rp_pos (Wd.digs ds) hl1 hl n 0 _ (idx (Wd.digs ds) 0 hl1) ?_ ?_ ?_ (hnd ds g3) w
    · have := hc 0 hl1; rw [beq_eq_false_iff_ne]; omega
    · cases ds with
      | nil => exact absurd rfl g2
      | cons c r =>
        have hc := g3 c (by simp)
        by_cases h0 : c = 0
        · left
          have := (g5 (by simp [h0])).2
          simp [Wd.digs] at this ⊢; simp [this]
        · right
          rw [beq_eq_false_iff_ne]
          intro e
          simp only [Wd.digs, List.map_cons, List.getElem_cons_zero] at e
          rw [UInt8.toNat_ofNat'] at e
          omega
    · intro es he hes
      have := Wd.digs_inj ds es g3 hes he
      subst this
      exact Or.inl ⟨by omega, by omega, rfl⟩

/-- The page refuses what is no number's text. -/
theorem rparse_no (l : List UInt8) (hl : l.length ≤ 20000) (h : ∀ n, Wd.inI64 n → Wd.num n ≠ l) (w : World) :
    Calls Tryd.prog 37 #[.string ⟨l.toArray⟩] w fun e w' => e = .returned (.tuple #[.int .i64 0, .int .i64 3]) ∧ w = w' := by
  have key : ∀ (ng : Bool) (ds : List Nat), ds ≠ [] → (∀ d ∈ ds, d < 10) → l = Wd.pre ng ++ Wd.digs ds → Wd.mayB ds ng = false := by
    intro ng ds h0 hd he
    cases hm : Wd.mayB ds ng with
    | false => rfl
    | true =>
      obtain ⟨a, b, _⟩ := Wd.may_yes ds ng h0 hd hm
      exact absurd (b.trans he.symm) (h _ a)
  have hx : ∀ t : List UInt8, 0 < t.length → ∀ w : World, (Instr.index 9 (.string ⟨t.toArray⟩) (.int .i64 0)).run Tryd.prog w = .ok (.int .u8 ((t[0]?.getD 0).toNat : Int)) w := by
    intro t ht w
    have hi := idx t 0 ht w
    have e0 : t[0]?.getD 0 = t[0] := by rw [List.getElem?_eq_getElem ht]; rfl
    rw [e0]; exact hi
  have hdig0 : ∀ (ds : List Nat), ds ≠ [] → (∀ d ∈ ds, d < 10) → (((Wd.digs ds)[0]?.getD 0).toNat : Int) ≠ 48 → ds.head? ≠ some 0 := by
    intro ds h0 hd h48 he
    cases ds with
    | nil => exact h0 rfl
    | cons c r =>
      simp at he
      subst he
      exact h48 (by simp [Wd.digs])
  by_cases hneg : ∃ t, l = 126 :: t
  · obtain ⟨t, rfl⟩ := hneg
    have hl' : t.length ≤ 20000 := by simp at hl; omega
    by_cases hs : t.length = 0 ∨ 19 < t.length ∨ (1 < t.length ∧ t.length ≤ 19 ∧ (((t[0]?.getD 0).toNat : Int) == 48) = true)
    · exact rp_short_neg t hl' (idx (126 :: t) 0 (by simp)) (cut1 _) _ (hx t) hs w
    · have h48 : t.length ≤ 1 ∨ (((t[0]?.getD 0).toNat : Int) == 48) = false := by
        by_cases h1 : t.length ≤ 1
        · exact Or.inl h1
        · right
          cases hc : (((t[0]?.getD 0).toNat : Int) == 48) with
          | false => rfl
          | true => exact absurd (Or.inr (Or.inr ⟨by omega, by omega, hc⟩)) hs
      refine rp_neg t (by omega) (by omega) 0 3 (idx (126 :: t) 0 (by simp)) (cut1 _) _ (hx t (by omega)) h48 ?_ (fun _ _ _ => ⟨rfl, rfl⟩) w
      intro ds he hd
      have h0 : ds ≠ [] := by rintro rfl; subst he; simp [Wd.digs] at hs
      have hm := key true ds h0 hd (by rw [he]; rfl)
      right
      refine ⟨?_, rfl, rfl⟩
      by_cases hv : Wd.val ds = 0
      · exact Or.inl hv
      · right
        have hlen : ds.length = t.length := by rw [he]; simp [Wd.digs]
        have hz : ds.head? ≠ some 0 := by
          rcases h48 with h1 | h1
          · intro hz
            cases ds with
            | nil => exact h0 rfl
            | cons c r =>
              have : r = [] := List.eq_nil_of_length_eq_zero (by simp at hlen; omega)
              subst this
              simp at hz; subst hz
              exact hv (by simp [Wd.val])
          · exact hdig0 ds h0 hd (by rw [← he]; rw [beq_eq_false_iff_ne] at h1; exact h1)
        simp only [Wd.mayB, Bool.and_eq_false_iff, Bool.or_eq_false_iff, decide_eq_false_iff_not, Bool.not_true] at hm
        rcases hm with (hm | hm) | hm
        · omega
        · exact absurd hz hm.1
        · rcases hm.2 with h3 | h3
          · cases h3
          · omega
  · by_cases hs : l.length = 0 ∨ 19 < l.length ∨ (1 < l.length ∧ l.length ≤ 19 ∧ (((l[0]?.getD 0).toNat : Int) == 48) = true)
    · refine rp_short_pos l (by omega) _ (hx l) ?_ hs w
      rw [beq_eq_false_iff_ne]
      intro e
      cases l with
      | nil => simp at e
      | cons c r =>
        simp at e
        exact hneg ⟨r, by rw [show c = 126 from UInt8.toNat_inj.1 (by have : (126 : UInt8).toNat = 126 := rfl; omega)]⟩
    · have h48 : l.length ≤ 1 ∨ (((l[0]?.getD 0).toNat : Int) == 48) = false := by
        by_cases h1 : l.length ≤ 1
        · exact Or.inl h1
        · right
          cases hc : (((l[0]?.getD 0).toNat : Int) == 48) with
          | false => rfl
          | true => exact absurd (Or.inr (Or.inr ⟨by omega, by omega, hc⟩)) hs
      refine rp_pos l (by omega) (by omega) 0 3 _ (hx l (by omega)) ?_ h48 ?_ (fun _ _ _ => ⟨rfl, rfl⟩) w
      · rw [beq_eq_false_iff_ne]
        intro e
        cases l with
        | nil => simp at e
        | cons c r =>
          simp at e
          exact hneg ⟨r, by rw [show c = 126 from UInt8.toNat_inj.1 (by have : (126 : UInt8).toNat = 126 := rfl; omega)]⟩
      · intro ds he hd
        have h0 : ds ≠ [] := by rintro rfl; subst he; simp [Wd.digs] at hs
        have hm := key false ds h0 hd (by rw [he]; rfl)
        right
        refine ⟨?_, rfl, rfl⟩
        have hlen : ds.length = l.length := by rw [he]; simp [Wd.digs]
        have hz : ds.head? ≠ some 0 ∨ ds.length = 1 := by
          rcases h48 with h1 | h1
          · right; omega
          · exact Or.inl (hdig0 ds h0 hd (by rw [← he]; rw [beq_eq_false_iff_ne] at h1; exact h1))
        simp only [Wd.mayB, Bool.and_eq_false_iff, Bool.or_eq_false_iff, decide_eq_false_iff_not, Bool.not_false, Bool.and_true] at hm
        rcases hm with (hm | hm) | hm
        · omega
        · rcases hz with hz | hz
          · exact absurd hz hm.1
          · exact absurd hz hm.2
        · omega
end Go.Proofs.YthiifacfkeibbaaDoor
