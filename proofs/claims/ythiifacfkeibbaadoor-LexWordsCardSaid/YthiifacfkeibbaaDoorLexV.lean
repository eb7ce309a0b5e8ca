/- The walk of the law on words, numbers and literals. -/
import Derived.Test.YthiifacfkeibbaaDoorBytes
import Derived.Test.YthiifacfkeibbaaDoorRefD
import Derived.Lib.ConvBytes
import Derived.Deep.DeepCutAuto
import Derived.Deep.CutRange
import Derived.Deep.RegionHeld3
namespace Go.Proofs.YthiifacfkeibbaaDoor
open Go Go.RowKit
open Go.Proofs

theorem tw_all (p : UInt8 → Bool) : ∀ l : List UInt8, l.all p = true → l.takeWhile p = l
  | [], _ => rfl
  | c :: r, h => by
    simp only [List.all_cons, Bool.and_eq_true] at h
    rw [List.takeWhile_cons, if_pos h.1, tw_all p r h.2]
theorem dig_all (u : Nat) : (Lib.decDigits u).all Lx.dig = true := by
  rw [List.all_eq_true]
  intro c hc
  have := Wd.dec_digit u c hc
  simp [Lx.dig, Lx.digI]; omega
theorem first_num' (n : Int) (h : Wd.inI64 n) : Lx.first (Wd.num n) = some ⟨3, (Wd.num n).length, [], n⟩ := by
  have hp := Lx.pnum_num n h
  by_cases hn : n < 0
  · have e1 := (Wd.num_neg hn).1
    rw [e1] at hp ⊢
    simp only [Lx.first]
    rw [if_neg (by decide), if_pos (by simp), tw_all _ _ (dig_all _), Lx.numT, hp]; rfl
  · have e1 := (Wd.num_pos hn).1
    obtain ⟨c, r, hd, hc1, hc2⟩ := Wd.dec_head n.toNat
    have hall := dig_all n.toNat
    rw [hd] at hall e1
    rw [e1] at hp ⊢
    simp only [List.all_cons, Bool.and_eq_true] at hall
    simp only [Lx.first]
    rw [if_neg (by simp [Wd.low, Wd.lowI]; omega), if_pos (by simp [hall.1]), tw_all _ _ hall.2, Lx.numT, hp]; rfl
theorem first_lit (t : List UInt8) (h : t.length ≤ 200) : Lx.first (Wd.quote t) = some ⟨4, (Wd.quote t).length, t, 0⟩ := by
  have hp := Lx.plit_quote t h
  have hb : (Wd.body t).all Lx.notQ = true := by
    rw [List.all_eq_true]
    intro c hc
    have := (body_mem t c hc).2.2
    simp [Lx.notQ]; omega
  have htw : (Wd.body t ++ [34]).takeWhile Lx.notQ = Wd.body t := by
    rw [Lx.tw_app _ _ _ (fun x hx => by simp at hx; subst hx; decide), tw_all _ _ hb]
  have e : Wd.quote t = 34 :: (Wd.body t ++ [34]) := rfl
  rw [e] at hp ⊢
  simp only [Lx.first]
  rw [if_neg (by decide), if_neg (by decide), if_pos (by decide), htw, if_pos (by simp)]
  show Lx.strT (34 :: (Wd.body t ++ [34])) = _
  rw [Lx.strT, hp]; rfl
theorem low_part (c : UInt8) (h : Wd.low c = true) : Wd.part c = true := by
  simp [Wd.part, Wd.partI, show Wd.lowI (c.toNat : Int) = true from h]
theorem first_wordT (c : UInt8) (r : List UInt8) (hc : Wd.low c = true) (hr : r.all Wd.part = true) : Lx.first (c :: r) = Lx.wordT (c :: r) := by
  simp only [Lx.first]
  rw [if_pos hc, tw_all _ _ hr]
theorem key_first (s : List UInt8) (h : Wd.key s = true) : Lx.first s = some ⟨2, s.length, s, 0⟩ := by
  obtain ⟨h1, h2⟩ := key_all s h
  cases s with
  | nil => exact absurd rfl h2
  | cons c r =>
    simp only [List.all_cons, Bool.and_eq_true] at h1
    have hp : r.all Wd.part = true := by rw [List.all_eq_true]; exact fun x hx => low_part x ((List.all_eq_true.1 h1.2) x hx)
    rw [first_wordT c r h1.1 hp, Lx.wordT, if_pos h]
theorem name_first (s : List UInt8) (hk : Wd.key s = false) (h : Wd.name s = true) : Lx.first s = some ⟨1, s.length, s, 0⟩ := by
  have hh := h
  cases s with
  | nil => cases h
  | cons c r =>
    simp only [Wd.name, Bool.and_eq_true] at h
    rw [first_wordT c r h.1.1.2 h.1.2, Lx.wordT, if_neg (by simp [hk]), if_pos hh]
theorem small_first (s : List UInt8) (hs : s ≠ []) (hall : s.all Wd.low = true) (hk : Wd.key s = false) (hn : Wd.name s = false) : Lx.first s = none ∧ 32 < s.length := by
  cases s with
  | nil => exact absurd rfl hs
  | cons c r =>
    have ha := hall
    simp only [List.all_cons, Bool.and_eq_true] at ha
    have hp : r.all Wd.part = true := by rw [List.all_eq_true]; exact fun x hx => low_part x ((List.all_eq_true.1 ha.2) x hx)
    refine ⟨by rw [first_wordT c r ha.1 hp, Lx.wordT, if_neg (by simp [hk]), if_neg (by simp [hn])], ?_⟩
    simp only [Wd.name, ha.1, hp, hk] at hn
    simp at hn
    simp; omega
theorem scan_blank (s : List UInt8) (c : UInt8) (r : List UInt8) (hs : s = c :: r) (h1 : Lx.blank c = false) (h2 : c ≠ 35) : Lx.skip (32 :: s) = 1 := by
  subst hs
  rw [skip_blank 32 _ (by decide), Lx.skip_none h1 h2]
theorem scan_after {s : List UInt8} {b : Lx.Bare} (h : Lx.first s = some b) (hl : b.len = s.length) : Lx.scan (32 :: s) 0 = .good [b.at_ 1] := by
  cases s with
  | nil => cases h
  | cons c r =>
    obtain ⟨h1, h2⟩ := Lx.first_stop h
    have hsk := scan_blank (c :: r) c r rfl h1 h2
    rw [Lx.scan_step 0 (show (32 :: c :: r).drop (Lx.skip (32 :: c :: r)) = c :: r from by rw [hsk]; rfl) h, hsk, hl, List.drop_length, Lx.scan_end _ (by simp)]
    rfl
theorem scan_after_no {c : UInt8} {r : List UInt8} (hc : Wd.low c = true) (h : Lx.first (c :: r) = none) : Lx.scan (32 :: c :: r) 0 = .bad 1 := by
  have h1 : Lx.blank c = false ∧ c ≠ 35 := by
    simp only [Wd.low, Wd.lowI, Bool.and_eq_true, decide_eq_true_eq] at hc
    refine ⟨by simp [Lx.blank, Lx.blankI]; omega, ?_⟩
    rintro rfl
    simp at hc
  have hsk := scan_blank (c :: r) c r rfl h1.1 h1.2
  rw [Lx.scan_bad 0 (show (32 :: c :: r).drop (Lx.skip (32 :: c :: r)) = c :: r from by rw [hsk]; rfl) h, hsk]
theorem below_chain {w W w9 : World} (h : Below w.heap.size w W) (h9 : Below W.heap.size W w9) : Below w.heap.size w w9 := h.trans (h9.mono h.size)
theorem i64_of_wf {a : Int} (h : (Lit.int .i64 a).wf = true) : Wd.inI64 a := by
  have e1 : IntKind.i64.min = -9223372036854775808 := rfl
  have e2 : IntKind.i64.max = 9223372036854775807 := rfl
  simp [Lit.wf, e1, e2] at h
  exact ⟨by omega, by omega⟩
theorem tok_eql (k f t n : Int) (s : ByteArray) (w : World) : (binOp .eql 32 (.agg #[.int .i64 k, .int .i64 f, .int .i64 t, .string s, .int .i64 n]) (.agg #[.int .i64 k, .int .i64 f, .int .i64 t, .string s, .int .i64 n])).run Tryd.prog w = .ok (.bool true) w := by
  simp [go_sem]
theorem conv_bytes (l : List UInt8) (w : World) : ∃ cap w', (convert 9 22 (.string ⟨l.toArray⟩)).run Tryd.prog w = .ok (.slice (some ⟨w.heap.size, 0, none⟩) l.length cap) w' ∧ Holds w' (some ⟨w.heap.size, 0, none⟩) l ∧ Below w.heap.size w w' := by
  have h := Lib.run_convert_string_bytes (P := Tryd.prog) w 9 22 5 ⟨l.toArray⟩ Tryd.underlying9 Tryd.underlying22 Tryd.underlying5
  rw [ba_size] at h
  refine ⟨_, _, h, ?_, Lib.bytesWorld_below w 5 ⟨l.toArray⟩⟩
  · refine Or.inr ⟨_, 0, rfl, by rw [Lib.bytesWorld_size]; omega, fun i hi => ?_⟩
    rw [Nat.zero_add, Lib.bytesWorld_cell w 5 ⟨l.toArray⟩ i (by rw [ba_size]; exact hi)]
    simp [List.getD, List.getElem?_eq_getElem hi]

set_option maxRecDepth 100000 in
set_option maxHeartbeats 1000000 in
theorem words_big1 (s t : ByteArray) (n : Int) (h : 100 < s.size) (w : World) :
    Calls Tryd.prog 7 #[.string s, .int .i64 n, .string t] w fun e w' => e = .returned (.bool true) ∧ Below w.heap.size w w' := by
  go_enter Tryd.func7, Tryd.ntmps7
  go_wp2_with fail
  go_ret
  exact ⟨rfl, Below.refl _ _⟩
set_option maxRecDepth 100000 in
set_option maxHeartbeats 1000000 in
theorem words_big2 (s t : ByteArray) (n : Int) (h0 : s.size ≤ 100) (h : 200 < t.size) (w : World) :
    Calls Tryd.prog 7 #[.string s, .int .i64 n, .string t] w fun e w' => e = .returned (.bool true) ∧ Below w.heap.size w w' := by
  go_enter Tryd.func7, Tryd.ntmps7
  go_wp2_with fail
  go_ret
  exact ⟨rfl, Below.refl _ _⟩

set_option maxRecDepth 100000 in
set_option maxHeartbeats 4000000 in
/-- Up to the scan of the word. -/
theorem words_walk (s t NT QT : List UInt8) (n : Int) (hs : s.length ≤ 100) (ht : t.length ≤ 200)
    (Q : ∀ w, Calls Tryd.prog 13 #[.string ⟨t.toArray⟩] w fun e w' => e = .returned (.tuple #[.string ⟨QT.toArray⟩, .int .i64 0]) ∧ Below w.heap.size w w')
    (NN : ∀ w, Calls Tryd.prog 14 #[.int .i64 n] w fun e w' => e = .returned (.string ⟨NT.toArray⟩) ∧ w = w')
    (S1 : ∀ a cap w, Holds w a NT → Good w → Calls Tryd.prog 8 #[.slice a NT.length cap] w (ScanPost (.good [⟨3, 0, NT.length, [], n⟩]) w))
    (S2 : ∀ a cap w, Holds w a QT → Good w → Calls Tryd.prog 8 #[.slice a QT.length cap] w (ScanPost (.good [⟨4, 0, QT.length, t, 0⟩]) w))
    (S3 : ∀ a cap w, Holds w a (32 :: s) → Good w → Calls Tryd.prog 8 #[.slice a (s.length + 1) cap] w (ScanPost (Lx.scan (32 :: s) 0) w))
    (kb nb : Bool)
    (K : ∀ w, Calls Tryd.prog 15 #[.string ⟨s.toArray⟩] w fun e w' => e = .returned (.bool kb) ∧ w = w')
    (NM : ∀ w, Calls Tryd.prog 16 #[.string ⟨s.toArray⟩] w fun e w' => e = .returned (.bool nb) ∧ w = w')
    (HC : (kb = true ∧ Lx.scan (32 :: s) 0 = .good [⟨2, 1, 1 + s.length, s, 0⟩]) ∨ (kb = false ∧ nb = true ∧ Lx.scan (32 :: s) 0 = .good [⟨1, 1, 1 + s.length, s, 0⟩]) ∨ (kb = false ∧ nb = false ∧ (s = [] → Lx.scan (32 :: s) 0 = .good []) ∧ (s.all Wd.low = true → s ≠ [] → 32 < s.length ∧ Lx.scan (32 :: s) 0 = .bad 1)))
    (w : World) (hg : Good w) :
    Calls Tryd.prog 7 #[.string ⟨s.toArray⟩, .int .i64 n, .string ⟨t.toArray⟩] w fun e w' => e = .returned (.bool true) ∧ Below w.heap.size w w' := by
  have HQ := Lib.hid Q; have HN := Lib.hid NN; have H1 := Lib.hid S1; have H2 := Lib.hid S2; have HG := Lib.hid hg
  have H3 := Lib.hid S3; have HK := Lib.hid K; have HNM := Lib.hid NM; have HCC := Lib.hid HC
  clear Q NN S1 S2 hg S3 K NM HC
  go_enter Tryd.func7, Tryd.ntmps7
  go_wp2_with fail
  refine (HQ.out _).mono ?_
  rintro e w1 ⟨rfl, hb1⟩
  have B1 := Lib.hid hb1
  clear hb1
  obtain ⟨cap1, w2, hcv1, hH1, hB1⟩ := conv_bytes NT w1
  have B2 := Lib.hid (B1.out.trans (hB1.mono B1.out.size))
  have HH1 := Lib.hid hH1
  clear hH1 hB1
  go_wp2_with fail
  refine (HN.out _).mono ?_
  rintro e w1' ⟨rfl, rfl⟩
  go_wp2_with fail
  refine (H1.out _ _ _ HH1.out (HG.out.below B2.out)).mono ?_
  rintro e w3 ⟨v3, rfl, hown3, hb3⟩
  obtain ⟨a3, c3, rfl⟩ := own_shape' hown3
  rcases (toks_own hown3).2 with h0 | ⟨g3, rfl, hg3, hT3⟩
  · cases h0
  have B3 := Lib.hid (B2.out.trans (hb3.mono B2.out.size))
  have T3 := Lib.hid (hT3 0 (by simp))
  clear hown3 hb3 hT3 hcv1
  obtain ⟨cap2, w4, hcv2, hH2, hB2⟩ := conv_bytes QT w3
  have B34 := Lib.hid hB2
  have B4 := Lib.hid (B3.out.trans (hB2.mono B3.out.size))
  have HH2 := Lib.hid hH2
  clear hH2 hB2
  go_wp2_with fail
  refine (H2.out _ _ _ HH2.out (HG.out.below B4.out)).mono ?_
  rintro e w5 ⟨v5, rfl, hown5, hb5⟩
  obtain ⟨a5, c5, rfl⟩ := own_shape' hown5
  rcases (toks_own hown5).2 with h0 | ⟨g5, rfl, hg5, hT5⟩
  · cases h0
  have B5 := Lib.hid (B4.out.trans (hb5.mono B4.out.size))
  obtain ⟨m0, m1, m2, m3, m4⟩ := T3.out
  obtain ⟨p0, p1, p2, p3, p4⟩ := hT5 0 (by simp)
  have B35 := B34.out.trans (hb5.mono B34.out.size)
  have q : ∀ o, w5.cell? ⟨g3, o, none⟩ = w3.cell? ⟨g3, o, none⟩ := fun o => B35.cell (p := ⟨g3, o, none⟩) hg3
  rw [← q] at m0 m4
  simp only [List.getElem_cons_zero, Nat.zero_mul, Nat.zero_add] at m0 m4 p0 p3
  clear hown5 hb5 hT5 hcv2 q B35 m1 m2 m3 p1 p2 p4
  rw [show ([⟨4, 0, QT.length, t, 0⟩] : List Lx.Tok).length = 1 from rfl]
  obtain ⟨cap3, w6, hcv3, hH3, hB3⟩ := conv_bytes (32 :: s) w5
  have e32 : (⟨(32 :: s).toArray⟩ : ByteArray) = ({ data := #[32] } : ByteArray) ++ { data := s.toArray } := ba_ext2 (by simp)
  rw [e32] at hcv3
  have B6 := Lib.hid (B5.out.trans (hB3.mono B5.out.size))
  have HH3 := Lib.hid hH3
  clear e32 hH3 hB3
  go_wp2_with fail
  have hs3 := H3.out _ cap3 w6 HH3.out (HG.out.below B6.out)
  clear hcv3
  rcases HCC.out with ⟨hk, hsc⟩ | ⟨hk, hnm, hsc⟩ | ⟨hk, hnm, hz, hsm⟩
  · subst hk
    rw [hsc] at hs3
    refine hs3.mono ?_
    rintro e w7 ⟨v7, rfl, hown7, hb7⟩
    obtain ⟨a7, c7, rfl⟩ := own_shape' hown7
    rcases (toks_own hown7).2 with h0 | ⟨g7, rfl, hg7, hT7⟩
    · cases h0
    obtain ⟨d0, d1, d2, d3, d4⟩ := hT7 0 (by simp)
    simp only [List.getElem_cons_zero, Nat.zero_mul, Nat.zero_add] at d0 d1 d2 d3 d4
    rw [show ((1 + s.length : Nat) : Int) = 1 + (s.length : Int) from by omega] at d2
    have B7 := Lib.hid (B6.out.trans (hb7.mono B6.out.size))
    have heq := tok_eql
    clear hown7 hb7 hT7 hsc HCC m0 m4 p0 p3
    rw [show ([⟨2, 1, 1 + s.length, s, 0⟩] : List Lx.Tok).length = 1 from rfl]
    go_wp2_with (go_at_call 15; refine (HK.out _).mono ?_; rintro e w' ⟨rfl, rfl⟩)
    have hBW := (B7.out.alloc B7.out.size (.cells #[.int .i64 2, .int .i64 1, .int .i64 (1 + (s.length : Int)), .string ⟨s.toArray⟩, .int .i64 0] 32)).drew
    go_region_held3 (fun w' => w'.cell? ⟨g7, 0, none⟩ = some (.int .i64 2) ∧ w'.cell? ⟨g7, 1, none⟩ = some (.int .i64 1) ∧ w'.cell? ⟨g7, 2, none⟩ = some (.int .i64 (1 + (s.length : Int))) ∧ w'.cell? ⟨g7, 3, none⟩ = some (.string ⟨s.toArray⟩) ∧ w'.cell? ⟨g7, 4, none⟩ = some (.int .i64 0) ∧
        w'.cell? ⟨w7.heap.size, 0, none⟩ = some (.int .i64 2) ∧ w'.cell? ⟨w7.heap.size, 1, none⟩ = some (.int .i64 1) ∧ w'.cell? ⟨w7.heap.size, 2, none⟩ = some (.int .i64 (1 + (s.length : Int))) ∧ w'.cell? ⟨w7.heap.size, 3, none⟩ = some (.string ⟨s.toArray⟩) ∧ w'.cell? ⟨w7.heap.size, 4, none⟩ = some (.int .i64 0) ∧ Below w.heap.size w w' ∧ w7.heap.size < w'.heap.size)
      (first | go_keep | (go_split_ands; refine ⟨?_, ?_, ?_, ?_, ?_, ?_, ?_, ?_, ?_, ?_, ?_, ?_⟩ <;> first | (rw [hb9.cell (by first | omega | (simp; omega))]; assumption) | exact below_chain (by assumption) hb9 | (have := hb9.size; omega)))
      ((first | (go_at_call 11; (with_reducible refine (xwakes_any _ (HG.out.below (by assumption))).mono ?_); rintro e w9 ⟨rfl, hb9⟩)))
    go_wp2_with fail
    go_ret
    first | exact ⟨rfl, below_chain hBW hb9⟩ | (go_split_ands; exact ⟨rfl, by assumption⟩)
  · subst hk hnm
    rw [hsc] at hs3
    refine hs3.mono ?_
    rintro e w7 ⟨v7, rfl, hown7, hb7⟩
    obtain ⟨a7, c7, rfl⟩ := own_shape' hown7
    rcases (toks_own hown7).2 with h0 | ⟨g7, rfl, hg7, hT7⟩
    · cases h0
    obtain ⟨d0, d1, d2, d3, d4⟩ := hT7 0 (by simp)
    simp only [List.getElem_cons_zero, Nat.zero_mul, Nat.zero_add] at d0 d1 d2 d3 d4
    rw [show ((1 + s.length : Nat) : Int) = 1 + (s.length : Int) from by omega] at d2
    have B7 := Lib.hid (B6.out.trans (hb7.mono B6.out.size))
    have heq := tok_eql
    clear hown7 hb7 hT7 hsc HCC m0 m4 p0 p3
    rw [show ([⟨1, 1, 1 + s.length, s, 0⟩] : List Lx.Tok).length = 1 from rfl]
    go_wp2_with (first | (go_at_call 15; refine (HK.out _).mono ?_; rintro e w' ⟨rfl, rfl⟩) | (go_at_call 16; refine (HNM.out _).mono ?_; rintro e w' ⟨rfl, rfl⟩))
    have hBW := (B7.out.alloc B7.out.size (.cells #[.int .i64 1, .int .i64 1, .int .i64 (1 + (s.length : Int)), .string ⟨s.toArray⟩, .int .i64 0] 32)).drew
    go_region_held3 (fun w' => w'.cell? ⟨g7, 0, none⟩ = some (.int .i64 1) ∧ w'.cell? ⟨g7, 1, none⟩ = some (.int .i64 1) ∧ w'.cell? ⟨g7, 2, none⟩ = some (.int .i64 (1 + (s.length : Int))) ∧ w'.cell? ⟨g7, 3, none⟩ = some (.string ⟨s.toArray⟩) ∧ w'.cell? ⟨g7, 4, none⟩ = some (.int .i64 0) ∧
        w'.cell? ⟨w7.heap.size, 0, none⟩ = some (.int .i64 1) ∧ w'.cell? ⟨w7.heap.size, 1, none⟩ = some (.int .i64 1) ∧ w'.cell? ⟨w7.heap.size, 2, none⟩ = some (.int .i64 (1 + (s.length : Int))) ∧ w'.cell? ⟨w7.heap.size, 3, none⟩ = some (.string ⟨s.toArray⟩) ∧ w'.cell? ⟨w7.heap.size, 4, none⟩ = some (.int .i64 0) ∧ Below w.heap.size w w' ∧ w7.heap.size < w'.heap.size)
      (first | go_keep | (go_split_ands; refine ⟨?_, ?_, ?_, ?_, ?_, ?_, ?_, ?_, ?_, ?_, ?_, ?_⟩ <;> first | (rw [hb9.cell (by first | omega | (simp; omega))]; assumption) | exact below_chain (by assumption) hb9 | (have := hb9.size; omega)))
      ((first | (go_at_call 11; (with_reducible refine (xwakes_any _ (HG.out.below (by assumption))).mono ?_); rintro e w9 ⟨rfl, hb9⟩)))
    go_wp2_with fail
    go_ret
    first | exact ⟨rfl, below_chain hBW hb9⟩ | (go_split_ands; exact ⟨rfl, by assumption⟩)
  · subst hk hnm
    have hix := idx s
    have HIX := Lib.hid hix; clear hix
    by_cases h0 : s = []
    · have hz2 := hz h0
      have hl0 : s.length ≤ 0 := by rw [h0]; simp
      have hze : ((s.length : Int) == 0) = true := by rw [beq_iff_eq]; omega
      rw [hz2] at hs3
      clear hz hsm HCC h0 hz2 m0 m4 p0 p3
      refine hs3.mono ?_
      rintro e w7 ⟨v7, rfl, hown7, hb7⟩
      obtain ⟨a7, c7, rfl⟩ := own_shape' hown7
      have B7 := Lib.hid (B6.out.trans (hb7.mono B6.out.size))
      clear hown7 hb7
      go_wp2_with (first | (go_at_call 15; refine (HK.out _).mono ?_; rintro e w' ⟨rfl, rfl⟩) | (go_at_call 16; refine (HNM.out _).mono ?_; rintro e w' ⟨rfl, rfl⟩))
      go_loop [19] (fun i => i = .int .i64 0) (fun i => 0)
      case atStart => rfl
      case round =>
        subst hrel
        go_wp2_with fail
        go_ret
        exact ⟨rfl, B7.out⟩
    by_cases hall : s.all Wd.low = true
    · obtain ⟨h32, hb⟩ := hsm hall h0
      rw [hb] at hs3
      clear hz hsm HCC hall hb m0 m4 p0 p3
      have hpos : 0 < s.length := List.length_pos_iff.2 h0
      have hze : ((s.length : Int) == 0) = false := by rw [beq_eq_false_iff_ne]; omega
      clear h0
      refine hs3.mono ?_
      rintro e w7 ⟨rfl, hb7⟩
      have B7 := Lib.hid (B6.out.trans (hb7.mono B6.out.size))
      clear hb7
      go_wp2_with (first | (go_at_call 15; refine (HK.out _).mono ?_; rintro e w' ⟨rfl, rfl⟩) | (go_at_call 16; refine (HNM.out _).mono ?_; rintro e w' ⟨rfl, rfl⟩))
      go_loop [19] (fun i => ∃ k : Nat, k ≤ s.length ∧ i = .int .i64 k ∧ (s.take k).all Wd.low = true) (fun i => s.length - (intOf i).toNat)
      case atStart => exact ⟨0, Nat.zero_le _, rfl, by simp⟩
      case round =>
        obtain ⟨k, hk, rfl, hall⟩ := hrel
        have HA := Lib.hid hall; clear hall
        by_cases hlt : k < s.length
        · have hi := HIX.out k hlt
          cases hq : Wd.lowI ((s[k]).toNat : Int)
          · have hq2 : ((s[k]).toNat : Int) < 97 ∨ (97 ≤ ((s[k]).toNat : Int) ∧ 122 < ((s[k]).toNat : Int)) := by
              simp only [Wd.lowI, Bool.and_eq_false_iff, decide_eq_false_iff_not] at hq; omega
            clear hq
            generalize ((s[k]).toNat : Int) = c at *
            rcases hq2 with hq2 | ⟨hq2, hq3⟩
            all_goals
              go_wp2_with (go_at_call 11; refine (xwakes_any _ (HG.out.below B7.out)).mono ?_; rintro e w9 ⟨rfl, hb9⟩)
              go_ret
              exact ⟨rfl, B7.out.trans (hb9.mono B7.out.size)⟩
          · have hs1 : (s.take (k + 1)).all Wd.low = true := by
              rw [List.take_succ_eq_append_getElem hlt, List.all_append, HA.out]; simp [Wd.low, hq]
            have HS := Lib.hid hs1; clear hs1
            simp only [Wd.lowI, Bool.and_eq_true, decide_eq_true_eq] at hq
            obtain ⟨hq1, hq2⟩ := hq
            generalize ((s[k]).toNat : Int) = c at *
            go_wp2_with fail
            go_round
            case rel => exact ⟨k + 1, by omega, by go_num, HS.out⟩
            case measure => simp [intOf]; omega
        · go_wp2_with (go_at_call 11; refine (xwakes_any _ (HG.out.below B7.out)).mono ?_; rintro e w9 ⟨rfl, hb9⟩)
          go_ret
          exact ⟨rfl, B7.out.trans (hb9.mono B7.out.size)⟩

    · have HNA := Lib.hid hall
      clear hz hsm HCC hall h0 m0 m4 p0 p3
      cases hR : Lx.scan (32 :: s) 0 with
      | bad p =>
        rw [hR] at hs3
        clear hR
        refine hs3.mono ?_
        rintro e w7 ⟨rfl, hb7⟩
        have B7 := Lib.hid (B6.out.trans (hb7.mono B6.out.size))
        clear hb7
        go_wp2_with (first | (go_at_call 15; refine (HK.out _).mono ?_; rintro e w' ⟨rfl, rfl⟩) | (go_at_call 16; refine (HNM.out _).mono ?_; rintro e w' ⟨rfl, rfl⟩))
        go_loop [19] (fun i => ∃ k : Nat, k ≤ s.length ∧ i = .int .i64 k ∧ (s.take k).all Wd.low = true) (fun i => s.length - (intOf i).toNat)
        case atStart => exact ⟨0, Nat.zero_le _, rfl, by simp⟩
        case round =>
          obtain ⟨k, hk, rfl, hall⟩ := hrel
          have HA := Lib.hid hall; clear hall
          by_cases hlt : k < s.length
          · have hi := HIX.out k hlt
            cases hq : Wd.lowI ((s[k]).toNat : Int)
            · have hq2 : ((s[k]).toNat : Int) < 97 ∨ (97 ≤ ((s[k]).toNat : Int) ∧ 122 < ((s[k]).toNat : Int)) := by
                simp only [Wd.lowI, Bool.and_eq_false_iff, decide_eq_false_iff_not] at hq; omega
              clear hq
              generalize ((s[k]).toNat : Int) = c at *
              rcases hq2 with hq2 | ⟨hq2, hq3⟩
              all_goals
                go_wp2_with (go_at_call 11; refine (xwakes_any _ (HG.out.below B7.out)).mono ?_; rintro e w9 ⟨rfl, hb9⟩)
                go_ret
                exact ⟨rfl, B7.out.trans (hb9.mono B7.out.size)⟩
            · have hs1 : (s.take (k + 1)).all Wd.low = true := by
                rw [List.take_succ_eq_append_getElem hlt, List.all_append, HA.out]; simp [Wd.low, hq]
              have HS := Lib.hid hs1; clear hs1
              simp only [Wd.lowI, Bool.and_eq_true, decide_eq_true_eq] at hq
              obtain ⟨hq1, hq2⟩ := hq
              generalize ((s[k]).toNat : Int) = c at *
              go_wp2_with fail
              go_round
              case rel => exact ⟨k + 1, by omega, by go_num, HS.out⟩
              case measure => simp [intOf]; omega
          · exact absurd (by have := HA.out; rwa [List.take_of_length_le (by omega)] at this) HNA.out

      | good us =>
        rw [hR] at hs3
        clear hR
        refine hs3.mono ?_
        rintro e w7 ⟨v7, rfl, hown7, hb7⟩
        obtain ⟨a7, c7, rfl⟩ := own_shape' hown7
        have B7 := Lib.hid (B6.out.trans (hb7.mono B6.out.size))
        clear hown7 hb7
        go_wp2_with (first | (go_at_call 15; refine (HK.out _).mono ?_; rintro e w' ⟨rfl, rfl⟩) | (go_at_call 16; refine (HNM.out _).mono ?_; rintro e w' ⟨rfl, rfl⟩))
        go_loop [19] (fun i => ∃ k : Nat, k ≤ s.length ∧ i = .int .i64 k ∧ (s.take k).all Wd.low = true) (fun i => s.length - (intOf i).toNat)
        case atStart => exact ⟨0, Nat.zero_le _, rfl, by simp⟩
        case round =>
          obtain ⟨k, hk, rfl, hall⟩ := hrel
          have HA := Lib.hid hall; clear hall
          by_cases hlt : k < s.length
          · have hi := HIX.out k hlt
            cases hq : Wd.lowI ((s[k]).toNat : Int)
            · have hq2 : ((s[k]).toNat : Int) < 97 ∨ (97 ≤ ((s[k]).toNat : Int) ∧ 122 < ((s[k]).toNat : Int)) := by
                simp only [Wd.lowI, Bool.and_eq_false_iff, decide_eq_false_iff_not] at hq; omega
              clear hq
              generalize ((s[k]).toNat : Int) = c at *
              rcases hq2 with hq2 | ⟨hq2, hq3⟩
              all_goals
                go_wp2_with (go_at_call 11; refine (xwakes_any _ (HG.out.below B7.out)).mono ?_; rintro e w9 ⟨rfl, hb9⟩)
                go_ret
                exact ⟨rfl, B7.out.trans (hb9.mono B7.out.size)⟩
            · have hs1 : (s.take (k + 1)).all Wd.low = true := by
                rw [List.take_succ_eq_append_getElem hlt, List.all_append, HA.out]; simp [Wd.low, hq]
              have HS := Lib.hid hs1; clear hs1
              simp only [Wd.lowI, Bool.and_eq_true, decide_eq_true_eq] at hq
              obtain ⟨hq1, hq2⟩ := hq
              generalize ((s[k]).toNat : Int) = c at *
              go_wp2_with fail
              go_round
              case rel => exact ⟨k + 1, by omega, by go_num, HS.out⟩
              case measure => simp [intOf]; omega
          · exact absurd (by have := HA.out; rwa [List.take_of_length_le (by omega)] at this) HNA.out


theorem walk_lexWords (s : ByteArray) (_hs : s.size ≤ maxLen) (n : Int) (wn : (Lit.int .i64 n).wf = true) (t : ByteArray) (_ht : t.size ≤ maxLen) (w : World) (hg : Good w) :
    Calls Tryd.prog 7 #[.string s, .int .i64 n, .string t] w fun e w' => e = .returned (.bool true) ∧ Below w.heap.size w w' := by
  by_cases h1 : 100 < s.size
  · exact words_big1 s t n h1 w
  by_cases h2 : 200 < t.size
  · exact words_big2 s t n (by omega) h2 w
  have hn := i64_of_wf wn
  obtain ⟨l, hl⟩ : ∃ l, s.data.toList = l := ⟨_, rfl⟩
  have hsz : l.length = s.size := by rw [← hl]; simp
  have e : s = ⟨l.toArray⟩ := by rw [← hl]; first | done | exact (Lib.mk_data s).symm
  subst e
  obtain ⟨u, hu⟩ : ∃ u, t.data.toList = u := ⟨_, rfl⟩
  have husz : u.length = t.size := by rw [← hu]; simp
  have e : t = ⟨u.toArray⟩ := by rw [← hu]; first | done | exact (Lib.mk_data t).symm
  subst e
  have hql := (quote_len u).2
  have hnl := Wd.num_len n hn
  refine words_walk l u (Wd.num n) (Wd.quote u) n (by omega) (by omega) (rquote_any u (by omega)) (rnum_any n hn) ?_ ?_ ?_ (Wd.key l) (Wd.name l) (fun w => rkey_any l (by omega) w) (fun w => rname_any l (by omega) w) ?_ w hg
  · intro a cap w hh hg
    have := scan_any a cap (Wd.num n) w hh hg
    rw [scanAll_small (by omega), Lx.scan_one (first_num' n hn) rfl] at this
    simpa [Lx.Bare.at_] using this
  · intro a cap w hh hg
    have := scan_any a cap (Wd.quote u) w hh hg
    rw [scanAll_small (by omega), Lx.scan_one (first_lit u (by omega)) rfl] at this
    simpa [Lx.Bare.at_] using this
  · intro a cap w hh hg
    have := scan_any a cap (32 :: l) w hh hg
    rw [scanAll_small (by simp; omega)] at this
    exact this
  · cases hk : Wd.key l
    · cases hnm : Wd.name l
      · refine Or.inr (Or.inr ⟨rfl, rfl, fun h => by subst h; rfl, fun hall h0 => ?_⟩)
        obtain ⟨hf, h32⟩ := small_first l h0 hall hk hnm
        refine ⟨h32, ?_⟩
        cases l with
        | nil => exact absurd rfl h0
        | cons c r =>
          simp only [List.all_cons, Bool.and_eq_true] at hall
          exact scan_after_no hall.1 hf
      · exact Or.inr (Or.inl ⟨rfl, rfl, scan_after (name_first l hk hnm) rfl⟩)
    · exact Or.inl ⟨rfl, scan_after (key_first l hk) rfl⟩
end Go.Proofs.YthiifacfkeibbaaDoor
