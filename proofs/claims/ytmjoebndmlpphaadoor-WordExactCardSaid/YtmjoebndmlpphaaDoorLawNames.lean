/- The walk of the law on right names. -/
import Derived.Test.YtmjoebndmlpphaaDoorLawNums
import Derived.Deep.DeepCutAuto
namespace Go.Proofs.YtmjoebndmlpphaaDoor
open Go Go.RowKit
open Go.Proofs

theorem conv1 (w : World) (c : UInt8) : (convert 33 9 (.slice (some ⟨w.heap.size, 0, none⟩) 1 1)).run Tryd.prog (w.alloc (.cells #[.int .u8 (c.toNat : Int)] 5)) = .ok (.string { data := #[c] }) (w.alloc (.cells #[.int .u8 (c.toNat : Int)] 5)) :=
  conv_own (B := w.heap.size) (l := [c]) (World.ownsRow_lit w #[.int .u8 (c.toNat : Int)] 1 (Nat.le_refl _) (by decide) rfl)

theorem key_low : ∀ l ∈ Wd.keys, ∃ c r, l = c :: r ∧ 97 ≤ c.toNat ∧ c.toNat ≤ 122 := by
  intro l h
  simp only [Wd.keys, List.mem_cons, List.not_mem_nil, or_false] at h
  rcases h with rfl | rfl | rfl | rfl | rfl | rfl | rfl | rfl | rfl | rfl | rfl | rfl | rfl | rfl | rfl | rfl | rfl <;> exact ⟨_, _, rfl, by decide, by decide⟩

set_option maxRecDepth 100000 in
set_option maxHeartbeats 4000000 in
/-- The walk, over what Key and Name answer at the two texts. -/
theorem names_walk (l : List UInt8) (c : UInt8) (ci : Int) (hl : l.length ≤ 100) (ks ns kt nt P : Bool)
    (f1 : ks = true → ns = false) (f2 : ns = true → nt = (P && decide (l.length + 1 ≤ 32) && !kt))
    (v0 : Int) (h0 : 0 < l.length → ∀ w, (Instr.index 9 (.string ⟨l.toArray⟩) (.int .i64 0)).run Tryd.prog w = .ok (.int .u8 v0) w)
    (f3 : ks = true ∨ ns = true → 0 < l.length ∧ 97 ≤ v0 ∧ v0 ≤ 122) (f4 : 0 < l.length ∧ (v0 < 97 ∨ 122 < v0) → ns = false) (hP : P = Wd.partI ci)
    (KS : ∀ w, Calls Tryd.prog 15 #[.string ⟨l.toArray⟩] w fun e w' => e = .returned (.bool ks) ∧ w = w')
    (NS : ∀ w, Calls Tryd.prog 17 #[.string ⟨l.toArray⟩] w fun e w' => e = .returned (.bool ns) ∧ w = w')
    (KT : ∀ w, Calls Tryd.prog 15 #[.string (({ data := l.toArray } : ByteArray) ++ { data := #[c] })] w fun e w' => e = .returned (.bool kt) ∧ w = w')
    (NT : ∀ w, Calls Tryd.prog 17 #[.string (({ data := l.toArray } : ByteArray) ++ { data := #[c] })] w fun e w' => e = .returned (.bool nt) ∧ w = w')
    (w : World) (hg : Good w)
    (hcv : (convert 33 9 (.slice (some ⟨w.heap.size, 0, none⟩) 1 1)).run Tryd.prog (w.alloc (.cells #[.int .u8 ci] 5)) = .ok (.string { data := #[c] }) (w.alloc (.cells #[.int .u8 ci] 5))) :
    Calls Tryd.prog 7 #[.string ⟨l.toArray⟩, .int .u8 ci] w fun e w' => e = .returned (.bool true) ∧ Below w.heap.size w w' := by
  have HG := Lib.hid hg; have hKS := Lib.hid KS; have hNS := Lib.hid NS; have hKT := Lib.hid KT; have hNT := Lib.hid NT
  have HP := Lib.hid hP; have H0 := Lib.hid h0; have F1 := Lib.hid f1; have F2 := Lib.hid f2; have F3 := Lib.hid f3; have F4 := Lib.hid f4
  clear hg KS NS KT NT hP h0 f1 f2 f3 f4
  go_enter Tryd.func7, Tryd.ntmps7
  go_upto_region 4 with fail
  go_cut [6] (fun v wx => v = .bool P ∧ Below w.heap.size w wx)
  case first =>
    clear hcv
    cases h95 : (ci == 95) <;> cases h39 : (ci == 39) <;> go_wp2_with fail
    all_goals
      go_meet
      refine ⟨?_, (Below.refl _ _).alloc (Nat.le_refl _) _⟩
      rw [HP.out]
      congr 1
      rw [Bool.eq_iff_iff]; simp [Wd.partI, Wd.lowI, *] <;> omega
  case rest =>
    obtain ⟨rfl, hb⟩ := hcut
    have HGx := Lib.hid (HG.out.below hb)
    clear hcv
    cases ns
    · by_cases h00 : 0 < l.length
      · have hi := H0.out h00
        by_cases hlo : v0 < 97
        · have hk : ks = false := by
            cases ks with
            | false => rfl
            | true => have := (F3.out (Or.inl rfl)).2.1; omega
          subst hk
          clear hKT hNT
          go_wp2_with (first | (go_at_call 15; ((with_reducible refine (hKS.out _).mono ?_); rintro e w' ⟨rfl, rfl⟩)) | (go_at_call 15; ((with_reducible refine (hKT.out _).mono ?_); rintro e w' ⟨rfl, rfl⟩)) | (go_at_call 17; ((with_reducible refine (hNS.out _).mono ?_); rintro e w' ⟨rfl, rfl⟩)) | (go_at_call 17; ((with_reducible refine (hNT.out _).mono ?_); rintro e w' ⟨rfl, rfl⟩)) | (go_at_call 21; refine (wakes_any _ HGx.out).mono ?_; rintro e w4 ⟨rfl, hb4⟩))
          go_ret
          exact ⟨rfl, hb.trans (hb4.mono hb.size)⟩
        · by_cases hhi : 122 < v0
          · have hk : ks = false := by
              cases ks with
              | false => rfl
              | true => have := (F3.out (Or.inl rfl)).2.2; omega
            subst hk
            clear hKT hNT
            go_wp2_with (first | (go_at_call 15; ((with_reducible refine (hKS.out _).mono ?_); rintro e w' ⟨rfl, rfl⟩)) | (go_at_call 15; ((with_reducible refine (hKT.out _).mono ?_); rintro e w' ⟨rfl, rfl⟩)) | (go_at_call 17; ((with_reducible refine (hNS.out _).mono ?_); rintro e w' ⟨rfl, rfl⟩)) | (go_at_call 17; ((with_reducible refine (hNT.out _).mono ?_); rintro e w' ⟨rfl, rfl⟩)) | (go_at_call 21; refine (wakes_any _ HGx.out).mono ?_; rintro e w4 ⟨rfl, hb4⟩))
            go_ret
            exact ⟨rfl, hb.trans (hb4.mono hb.size)⟩
          · clear hKT hNT
            cases ks
            all_goals
              go_wp2_with (first | (go_at_call 15; ((with_reducible refine (hKS.out _).mono ?_); rintro e w' ⟨rfl, rfl⟩)) | (go_at_call 15; ((with_reducible refine (hKT.out _).mono ?_); rintro e w' ⟨rfl, rfl⟩)) | (go_at_call 17; ((with_reducible refine (hNS.out _).mono ?_); rintro e w' ⟨rfl, rfl⟩)) | (go_at_call 17; ((with_reducible refine (hNT.out _).mono ?_); rintro e w' ⟨rfl, rfl⟩)) | (go_at_call 21; refine (wakes_any _ HGx.out).mono ?_; rintro e w4 ⟨rfl, hb4⟩))
              go_ret
              exact ⟨rfl, hb.trans (hb4.mono hb.size)⟩
      · have hk : ks = false := by
          cases ks with
          | false => rfl
          | true => have := (F3.out (Or.inl rfl)).1; omega
        subst hk
        clear hKT hNT
        go_wp2_with (first | (go_at_call 15; ((with_reducible refine (hKS.out _).mono ?_); rintro e w' ⟨rfl, rfl⟩)) | (go_at_call 15; ((with_reducible refine (hKT.out _).mono ?_); rintro e w' ⟨rfl, rfl⟩)) | (go_at_call 17; ((with_reducible refine (hNS.out _).mono ?_); rintro e w' ⟨rfl, rfl⟩)) | (go_at_call 17; ((with_reducible refine (hNT.out _).mono ?_); rintro e w' ⟨rfl, rfl⟩)) | (go_at_call 21; refine (wakes_any _ HGx.out).mono ?_; rintro e w4 ⟨rfl, hb4⟩))
        go_ret
        exact ⟨rfl, hb.trans (hb4.mono hb.size)⟩
    · have hk : ks = false := by
        cases ks with
        | false => rfl
        | true => have := F1.out rfl; cases this
      subst hk
      obtain ⟨h00, hlo, hhi⟩ := F3.out (Or.inr rfl)
      have hi := H0.out h00
      have hnt := F2.out rfl
      by_cases h32 : l.length + 1 ≤ 32
      · rw [decide_eq_true h32] at hnt
        cases P <;> cases kt <;> (simp only [Bool.and_true, Bool.and_false, Bool.not_true, Bool.not_false] at hnt; subst hnt)
        all_goals
          go_wp2_with (first | (go_at_call 15; ((with_reducible refine (hKS.out _).mono ?_); rintro e w' ⟨rfl, rfl⟩)) | (go_at_call 15; ((with_reducible refine (hKT.out _).mono ?_); rintro e w' ⟨rfl, rfl⟩)) | (go_at_call 17; ((with_reducible refine (hNS.out _).mono ?_); rintro e w' ⟨rfl, rfl⟩)) | (go_at_call 17; ((with_reducible refine (hNT.out _).mono ?_); rintro e w' ⟨rfl, rfl⟩)) | (go_at_call 21; refine (wakes_any _ HGx.out).mono ?_; rintro e w4 ⟨rfl, hb4⟩))
          go_ret
          exact ⟨rfl, hb.trans (hb4.mono hb.size)⟩
      · rw [decide_eq_false h32] at hnt
        cases P <;> (simp only [Bool.and_false, Bool.false_and] at hnt; subst hnt)
        all_goals
          go_wp2_with (first | (go_at_call 15; ((with_reducible refine (hKS.out _).mono ?_); rintro e w' ⟨rfl, rfl⟩)) | (go_at_call 15; ((with_reducible refine (hKT.out _).mono ?_); rintro e w' ⟨rfl, rfl⟩)) | (go_at_call 17; ((with_reducible refine (hNS.out _).mono ?_); rintro e w' ⟨rfl, rfl⟩)) | (go_at_call 17; ((with_reducible refine (hNT.out _).mono ?_); rintro e w' ⟨rfl, rfl⟩)) | (go_at_call 21; refine (wakes_any _ HGx.out).mono ?_; rintro e w4 ⟨rfl, hb4⟩))
          go_ret
          exact ⟨rfl, hb.trans (hb4.mono hb.size)⟩

set_option maxRecDepth 100000 in
set_option maxHeartbeats 1000000 in
theorem names_big (s : ByteArray) (ci : Int) (h : 100 < s.size) (w : World) :
    Calls Tryd.prog 7 #[.string s, .int .u8 ci] w fun e w' => e = .returned (.bool true) ∧ Below w.heap.size w w' := by
  go_enter Tryd.func7, Tryd.ntmps7
  go_wp2_with fail
  go_ret
  exact ⟨rfl, Below.refl _ _⟩

theorem u8_of_wf {a : Int} (h : (Lit.int .u8 a).wf = true) : ∃ c : UInt8, a = (c.toNat : Int) := by
  have e1 : IntKind.u8.min = 0 := rfl
  have e2 : IntKind.u8.max = 255 := rfl
  simp [Lit.wf, e1, e2] at h
  refine ⟨UInt8.ofNat a.toNat, ?_⟩
  rw [UInt8.toNat_ofNat']; omega

theorem walk_wordNames (s : ByteArray) (hs : s.size ≤ maxLen) (a : Int) (wa : (Lit.int .u8 a).wf = true) (w : World) (hg : Good w) :
    Calls Tryd.prog 7 #[.string s, .int .u8 a] w fun e w' => e = .returned (.bool true) ∧ Below w.heap.size w w' := by
  by_cases h1 : 100 < s.size
  · exact names_big s a h1 w
  obtain ⟨c, rfl⟩ := u8_of_wf wa
  obtain ⟨l, hl⟩ : ∃ l, s.data.toList = l := ⟨_, rfl⟩
  have hsz : l.length = s.size := by rw [← hl]; simp
  have e : s = ⟨l.toArray⟩ := by rw [← hl]; first | done | exact (Lib.mk_data s).symm
  subst e
  have el : ({ data := l.toArray } : ByteArray).data.toList = l := by simp
  have et : (({ data := l.toArray } : ByteArray) ++ { data := #[c] }).data.toList = l ++ [c] := by simp
  have hts : (({ data := l.toArray } : ByteArray) ++ { data := #[c] }).size ≤ maxLen := by
    rw [Lib.size_eq, et]; unfold maxLen; simp; omega
  have ks := key_any ⟨l.toArray⟩
  have ns := name_any ⟨l.toArray⟩ hs
  have kt := key_any (({ data := l.toArray } : ByteArray) ++ { data := #[c] })
  have nt := name_any (({ data := l.toArray } : ByteArray) ++ { data := #[c] }) hts
  rw [el] at ks ns; rw [et] at kt nt
  -- what a right name is
  have hname : ∀ x : List UInt8, Wd.name x = true → Wd.key x = false ∧ ∃ d r, x = d :: r ∧ 97 ≤ d.toNat ∧ d.toNat ≤ 122 ∧ r.all Wd.part = true ∧ x.length ≤ 32 := by
    intro x hx
    cases x with
    | nil => cases hx
    | cons d r =>
      simp only [Wd.name, Wd.low, Wd.lowI, Bool.and_eq_true, decide_eq_true_eq, Bool.not_eq_true'] at hx
      exact ⟨hx.2, d, r, rfl, by omega, by omega, hx.1.2, hx.1.1.1⟩
  refine names_walk l c (c.toNat : Int) (by omega) (Wd.key l) (Wd.name l) (Wd.key (l ++ [c])) (Wd.name (l ++ [c])) (Wd.partI (c.toNat : Int)) ?_ ?_ ((l[0]?.getD 0).toNat : Int) ?_ ?_ ?_ rfl ks ns kt nt w hg (conv1 w c)
  · intro h
    cases hn : Wd.name l with
    | false => rfl
    | true => rw [(hname l hn).1] at h; cases h
  · intro h
    obtain ⟨hk, d, r, rfl, h1, h2, hr, hlen⟩ := hname l h
    have hd : Wd.low d = true := by simp [Wd.low, Wd.lowI]; omega
    simp only [List.cons_append, Wd.name, hd, List.all_append, hr, List.all_cons, List.all_nil, Bool.and_true, Bool.true_and]
    simp only [List.length_cons, List.length_append, List.length_nil]
    rw [Bool.and_comm (decide _) (Wd.part c)]; rfl
  · intro h w
    have hi := idx l 0 h w
    have e0 : l[0]?.getD 0 = l[0] := by rw [List.getElem?_eq_getElem h]; rfl
    rw [e0]; exact hi
  · rintro (h | h)
    · have hm : l ∈ Wd.keys := by simpa [Wd.key] using h
      obtain ⟨d, r, rfl, h1, h2⟩ := key_low l hm
      simp; omega
    · obtain ⟨hk, d, r, rfl, h1, h2, hr, hlen⟩ := hname l h
      simp; omega
  · rintro ⟨h0, h⟩
    cases hn : Wd.name l with
    | false => rfl
    | true =>
      obtain ⟨hk, d, r, rfl, h1, h2, hr, hlen⟩ := hname l hn
      simp at h; omega
end Go.Proofs.YtmjoebndmlpphaaDoor
