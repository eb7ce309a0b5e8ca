/- Walks: the page's own Scan; the law that holds lex.Scan against it. -/
import Derived.Test.YthiifacfkeibbaaDoorLexG
namespace Go.Proofs.YthiifacfkeibbaaDoor
open Go Go.RowKit
open Go.Proofs

set_option maxHeartbeats 400000 in
theorem rscan_big (a : Option Addr) (n cap : Nat) (h : 16384 < n) (w : World) :
    Calls Tryd.prog 9 #[.slice a n cap] w (ScanPost (.bad 16384) w) := by
  go_enter Tryd.func9, Tryd.ntmps9
  go_wp2_with fail
  go_ret3
  exact ⟨rfl, Below.refl _ _⟩

set_option maxRecDepth 100000 in
set_option maxHeartbeats 4000000 in
theorem rscan_small (a : Option Addr) (cap : Nat) (l : List UInt8) (h : l.length ≤ 16384) (hcap : l.length ≤ cap) (w : World) (hh : Holds w a l) :
    Calls Tryd.prog 9 #[.slice a l.length cap] w (ScanPost (Lx.scan l 0) w) := by
  obtain ⟨i0, hi, hz0, hz1, hz2⟩ := info_parts info_tok
  obtain ⟨R, hR⟩ : ∃ R, R = Lx.scan l 0 := ⟨_, rfl⟩
  rw [← hR]
  have hsk := Lx.skip_le l
  have hsk0 := rskip_any a cap l (by omega) 0 (by omega) w hh
  rw [List.drop_zero, Nat.zero_add] at hsk0
  have hkeep : ∀ w', Below w.heap.size w w' → Holds w' a l := fun w' hb => hh.below (Nat.le_refl _) hb
  have HR := Lib.hid hR; have HH := Lib.hid hkeep; have HSK0 := Lib.hid hsk0
  clear hR hh hsk0 hkeep
  go_enter Tryd.func9, Tryd.ntmps9
  go_wp2_with (go_at_call 19; refine (HSK0.out).mono ?_; rintro e w' ⟨rfl, rfl⟩)
  go_loopw [5, 6] (fun v i wr => ∃ (ts : List Lx.Tok) (off : Nat), i = .int .i64 off ∧ off ≤ l.length ∧ ts.length ≤ off ∧ R = Lx.Res.glue ts (Lx.scan (l.drop off) off) ∧ Lx.skip (l.drop off) = 0 ∧ wr.ownsRow w.heap.size 32 5 v ts.length (tokCells ts) ∧ Below w.heap.size w wr) (fun _ i _ => l.length - (intOf i).toNat)
  case atStart => exact ⟨[], Lx.skip l, rfl, hsk, by simp, by rw [HR.out, Lx.scan_skip, Lx.Res.glue_nil, Nat.zero_add], skip_drop l, World.ownsRow_nil _ _ _ _, Below.refl _ _⟩
  case round =>
    obtain ⟨ts, off, rfl, hoff, htl, hrel, hs0, hown, hb⟩ := hrel
    have HREL := Lib.hid hrel; have HS0 := Lib.hid hs0
    clear hrel hs0
    have hbs := hb.size
    have HHr := Lib.hid (HH.out _ hb)
    obtain ⟨va, vcap, rfl⟩ := own_shape' hown
    by_cases hlt : off < l.length
    · cases hd : l.drop off with
      | nil => rw [List.drop_eq_nil_iff] at hd; omega
      | cons c r =>
        have hrl : (c :: r).length = l.length - off := by rw [← hd]; simp
        have hend := rend_any a cap l (by omega) hcap off c r hd wr HHr.out
        have HEND := Lib.hid hend; have HD := Lib.hid hd
        clear hend
        cases hsp : span c r with
        | none =>
          have ho := (span_first c r).2 hsp
          have hbad : R = .bad off := by rw [HREL.out, HD.out, Lx.scan_bad (l := c :: r) off (by rw [← HD.out, HS0.out]; rfl) ho, ← HD.out, HS0.out]; rfl
          have he := HEND.out
          rw [hsp] at he
          have HE := Lib.hid he; have HB := Lib.hid hbad
          clear ho he hbad HEND hsp hd
          go_wp2_with (go_at_call 20; refine (HE.out).mono ?_; rintro e w' ⟨rfl, rfl⟩)
          go_ret3
          rw [HB.out]
          exact ⟨rfl, hb⟩
        | some n =>
          obtain ⟨hn1, hn2, hn3⟩ := (span_first c r).1 n hsp
          have htok := token_any a cap l (by omega) hcap off n c r hd hsp wr HHr.out
          have he := HEND.out
          rw [hsp] at he
          simp only [] at he
          rw [Int.natCast_add] at he htok
          have hnz : (((off : Int) + (n : Int)) == 0) = false := by rw [beq_eq_false_iff_ne]; omega
          have HE := Lib.hid he; have HTOK := Lib.hid htok
          rw [hrl] at hn1
          cases ho : Lx.first (c :: r) with
          | none =>
            have hbad : R = .bad off := by rw [HREL.out, HD.out, Lx.scan_bad (l := c :: r) off (by rw [← HD.out, HS0.out]; rfl) ho, ← HD.out, HS0.out]; rfl
            have ht := HTOK.out
            rw [ho] at ht
            have HT := Lib.hid ht; have HB := Lib.hid hbad
            clear ho ht hbad HEND HTOK hsp hd he htok hn3
            go_wp2_with (first | (go_at_call 20; refine (HE.out).mono ?_; rintro e w' ⟨rfl, rfl⟩) | (go_at_call 21; refine (HT.out).mono ?_; rintro e w1 ⟨q, k, s, nn, hq, rfl, hb1⟩; obtain rfl : q = false := hq))
            go_ret3
            rw [HB.out]
            exact ⟨rfl, (hb.trans (hb1.mono hbs)).alloc (Nat.le_trans hbs hb1.size) _⟩
          | some b =>
            have hbn := hn3 b ho
            have hstep : R = Lx.Res.glue (ts ++ [b.at_ off]) (Lx.scan ((c :: r).drop b.len) (off + b.len)) := by
              rw [HREL.out, HD.out, Lx.scan_step (l := c :: r) off (by rw [← HD.out, HS0.out]; rfl) ho, Lx.Res.glue_glue, ← HD.out, HS0.out]; rfl
            have hdd : (c :: r).drop b.len = l.drop (off + b.len) := by rw [← HD.out, List.drop_drop]
            rw [hdd, hbn] at hstep
            have ht := HTOK.out
            rw [ho] at ht
            have hskl := Lx.skip_le (l.drop (off + n))
            rw [List.length_drop] at hskl
            have hsk2 := skip_drop (l.drop (off + n))
            rw [List.drop_drop] at hsk2
            rw [Lx.scan_skip, List.drop_drop] at hstep
            have hbk : ∀ w', Below w.heap.size w w' → Calls Tryd.prog 19 #[.slice a l.length cap, .int .i64 ((off : Int) + (n : Int))] w' fun e w'' => e = .returned (.int .i64 (((off + n) + Lx.skip (l.drop (off + n)) : Nat) : Int)) ∧ w' = w'' := fun w' hb' => by
              have := rskip_any a cap l (by omega) (off + n) (by omega) w' (HH.out w' hb')
              rw [Int.natCast_add] at this; exact this
            obtain ⟨m, hm⟩ : ∃ m, m = Lx.skip (l.drop (off + n)) := ⟨_, rfl⟩
            rw [← hm] at hskl hsk2 hstep hbk
            have hrow : tokRow (b.at_ off) = [.int .i64 (b.kind : Int), .int .i64 (off : Int), .int .i64 ((off : Int) + (n : Int)), .string ⟨b.s.toArray⟩, .int .i64 b.n] := by
              simp [tokRow, Lx.Bare.at_, hbn]
            have HT := Lib.hid ht; have HST := Lib.hid hstep; have HBK := Lib.hid hbk; have HSK2 := Lib.hid hsk2; have HROW := Lib.hid hrow
            clear ho ht hstep HEND HTOK hdd hrl hbk hsk2 hm hsp hd he htok hn3 hbn hrow
            go_wp2_with (first | (go_at_call 20; refine (HE.out).mono ?_; rintro e w' ⟨rfl, rfl⟩) | (go_at_call 21; refine (HT.out).mono ?_; rintro e w1 ⟨q, k, s, nn, hq, rfl, hb1⟩; obtain ⟨rfl, rfl, rfl, rfl⟩ := hq) | (at_builtin; refine wpList_append_own _ rfl _ _ 23 rfl w.heap.size 32 i0 (.agg #[.int .i64 0, .int .i64 0, .int .i64 0, .string ByteArray.empty, .int .i64 0]) 5 48 Tryd.underlying23 hi hz0 hz1 hz2 rfl (by decide) _ _ _ rfl (((own_below hown hb1).alloc _).alloc _) ⟨w1.heap.size + 1, 0, none⟩ 1 1 [.int .i64 (b.kind : Int), .int .i64 (off : Int), .int .i64 ((off : Int) + (n : Int)), .string ⟨b.s.toArray⟩, .int .i64 b.n] rfl rfl ?c1 ?c2 ?c3 ?c4 ?c5 ?_))
            case c1 => exact cells5 (w1.alloc _) _ (by simp) _ _ _ _ _ _
            case c2 => intro u hu; simp at hu; rcases hu with rfl | rfl | rfl | rfl | rfl <;> rfl
            case c3 => unfold maxLen; omega
            case c4 => omega
            case c5 => have := hb1.size; simp; omega
            intro v' w2 hown' hg2 _
            have hs1 := hb1.size
            have hb2 : Below w.heap.size w w2 := (((hb.trans (hb1.mono hbs)).alloc (Nat.le_trans hbs hs1) _).alloc (by simp; omega) _).grown hg2 (by simp; omega) (fun k hk => (hown.lt k hk).1)
            rw [← HROW.out, show ts.length + 1 = (ts ++ [b.at_ off]).length from by simp, ← tokCells_snoc] at hown'
            have HOWN := Lib.hid hown'; have HB2 := Lib.hid hb2
            clear hown' hg2 hb2 hs1
            go_wp2_with (go_at_call 19; refine (HBK.out _ HB2.out).mono ?_; rintro e w' ⟨rfl, rfl⟩)
            go_roundw
            case rel => first | exact ⟨ts ++ [b.at_ off], off + n + m, rfl, by omega, by simp; omega, HST.out, HSK2.out, HOWN.out, HB2.out⟩ | ((repeat apply Exists.intro); exact ⟨⟨ts ++ [b.at_ off], off + n + m, rfl, by omega, by simp; omega, HST.out, HSK2.out, HOWN.out, HB2.out⟩, rfl⟩)
            case measure => simp [intOf]; omega
    · have hfin : R = .good ts := by
        rw [HREL.out, List.drop_of_length_le (by omega)]; simp [Lx.scan, Lx.scanF, Lx.skip, Lx.skipB, Lx.Res.glue]
      have HF := Lib.hid hfin; clear hfin
      go_wp2_with fail
      go_ret3
      rw [HF.out]
      exact ⟨_, rfl, hown, hb⟩
theorem rscan_any (a : Option Addr) (cap : Nat) (l : List UInt8) (hcap : l.length ≤ cap) (w : World) (hh : Holds w a l) :
    Calls Tryd.prog 9 #[.slice a l.length cap] w (ScanPost (scanAll l) w) := by
  unfold scanAll
  split
  · rename_i h; exact rscan_big a _ cap h w
  · rename_i h; exact rscan_small a cap l (by omega) hcap w hh

set_option maxRecDepth 100000 in
set_option maxHeartbeats 1000000 in
theorem exact_big (a : Option Addr) (n cap : Nat) (h : 16394 < n) (w : World) :
    Calls Tryd.prog 3 #[.slice a n cap] w fun e w' => e = .returned (.bool true) ∧ Below w.heap.size w w' := by
  go_enter Tryd.func3, Tryd.ntmps3
  go_wp2_with fail
  go_ret
  exact ⟨rfl, Below.refl _ _⟩

theorem scan_max {l : List UInt8} {ts : List Lx.Tok} (h : scanAll l = .good ts) : ts.length ≤ 16384 := by
  unfold scanAll at h
  split at h
  · cases h
  · have := Lx.scan_len (l.length + 1) l (by omega) 0 ts h
    omega

set_option maxRecDepth 100000 in
set_option maxHeartbeats 4000000 in
theorem exact_small (a : Option Addr) (cap : Nat) (l : List UInt8) (h : l.length ≤ 16394) (hcap : l.length ≤ cap) (w : World) (hh : Holds w a l) (hg : Good w) :
    Calls Tryd.prog 3 #[.slice a l.length cap] w fun e w' => e = .returned (.bool true) ∧ Below w.heap.size w w' := by
  have hs1 := scan_any a cap l w hh hg
  have hs2 : ∀ w', Below w.heap.size w w' → Calls Tryd.prog 9 #[.slice a l.length cap] w' (ScanPost (scanAll l) w') := fun w' hb => rscan_any a cap l hcap w' (hh.below (Nat.le_refl _) hb)
  have hwk : ∀ w', Below w.heap.size w w' → Calls Tryd.prog 11 #[] w' fun e w'' => e = .returned (.bool true) ∧ Below w'.heap.size w' w'' := fun w' hb => xwakes_any w' (hg.below hb)
  have hcv : ∀ w', Below w.heap.size w w' → (convert 22 9 (.slice a l.length cap)).run Tryd.prog w' = .ok (.string ⟨l.toArray⟩) w' := fun w' hb => conv_holds (hh.below (Nat.le_refl _) hb) l.length cap rfl
  have hc0 := hcv w (Below.refl _ _)
  have W := Lib.hid hwk; have S2 := Lib.hid hs2; have HCV := Lib.hid hcv
  clear hwk hs2 hcv hg hh
  cases hR : scanAll l with
  | bad p =>
    rw [hR] at hs1
    have S2' := S2.out
    rw [hR] at S2'
    have HS1 := Lib.hid hs1; have HS2 := Lib.hid S2'
    clear hs1 S2' S2 hR
    go_enter Tryd.func3, Tryd.ntmps3
    go_wp2_with fail
    refine HS1.out.mono ?_
    rintro e w1 ⟨rfl, hb1⟩
    have B1 := Lib.hid hb1
    clear hb1
    go_wp2_with fail
    refine (HS2.out _ B1.out).mono ?_
    rintro e w2 ⟨rfl, hb2⟩
    have B2 := Lib.hid (B1.out.trans (hb2.mono B1.out.size))
    clear hb2 hc0
    have htk := (tokens_none none none 0 0)
    have TK := Lib.hid htk
    have hc2 := HCV.out _ B2.out
    clear htk
    go_wp2_with (first | (go_at_call 10; refine (TK.out _).mono ?_; rintro e w' ⟨rfl, rfl⟩) | (go_at_call 11; refine (W.out _ B2.out).mono ?_; rintro e w4 ⟨rfl, hb4⟩))
    go_ret
    exact ⟨rfl, B2.out.trans (hb4.mono B2.out.size)⟩
  | good ts =>
    have hmax := scan_max hR
    rw [hR] at hs1
    have S2' := S2.out
    rw [hR] at S2'
    have HS1 := Lib.hid hs1; have HS2 := Lib.hid S2'
    clear hs1 S2' S2 hR
    go_enter Tryd.func3, Tryd.ntmps3
    go_wp2_with fail
    refine HS1.out.mono ?_
    rintro e w1 ⟨v1, rfl, hown1, hb1⟩
    obtain ⟨a1, d1, rfl⟩ := own_shape' hown1
    have T1 := Lib.hid (toks_own hown1).2
    have B1 := Lib.hid hb1
    clear hb1 hown1
    go_wp2_with fail
    refine (HS2.out _ B1.out).mono ?_
    rintro e w2 ⟨v2, rfl, hown2, hb2⟩
    obtain ⟨a2, d2, rfl⟩ := own_shape' hown2
    have T2 := Lib.hid (toks_own hown2).2
    have T1' := Lib.hid (T1.out.below (Nat.le_refl _) hb2)
    have B2 := Lib.hid (B1.out.trans (hb2.mono B1.out.size))
    clear hb2 hown2 hc0
    have htk := tokens_any a1 a2 ts.length d1 d2 ts rfl (by omega) w2 T1'.out T2.out
    have TK := Lib.hid htk
    clear htk
    go_wp2_with fail
    refine TK.out.mono ?_
    rintro e w3 ⟨rfl, hb3⟩
    have B3 := Lib.hid (B2.out.trans (hb3.mono B2.out.size))
    have hc3 := HCV.out _ B3.out
    clear hb3
    go_wp2_with (go_at_call 11; refine (W.out _ B3.out).mono ?_; rintro e w4 ⟨rfl, hb4⟩)
    go_ret
    exact ⟨rfl, B3.out.trans (hb4.mono B3.out.size)⟩

theorem walk_lexExact {W : World} (x0 : Option Addr) (n0 c0 : Nat) (B0 : BytesAt W x0 n0 c0) (hg : Good W) :
    Calls Tryd.prog 3 #[.slice x0 n0 c0] W fun e w' => e = .returned (.bool true) ∧ Below W.heap.size W w' := by
  by_cases h0 : 16394 < n0
  · exact exact_big x0 n0 c0 h0 W
  obtain ⟨_, k0, _, b, rfl, H0⟩ := B0
  exact exact_small x0 c0 b (by omega) k0 W H0 hg
end Go.Proofs.YthiifacfkeibbaaDoor
