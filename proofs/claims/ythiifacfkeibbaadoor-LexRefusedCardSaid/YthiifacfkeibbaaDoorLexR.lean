/- The walk of the law on what is refused, and on what is put ahead. -/
import Derived.Test.YthiifacfkeibbaaDoorBytes
import Derived.Deep.DeepCutAuto
import Derived.Deep.CutRange
namespace Go.Proofs.YthiifacfkeibbaaDoor
open Go Go.RowKit
open Go.Proofs

set_option maxRecDepth 100000 in
set_option maxHeartbeats 1000000 in
theorem refused_big1 (a1 a2 : Option Addr) (n1 c1 n2 c2 : Nat) (h : 3000 < n1) (w : World) :
    Calls Tryd.prog 6 #[.slice a1 n1 c1, .slice a2 n2 c2] w fun e w' => e = .returned (.bool true) ∧ Below w.heap.size w w' := by
  go_enter Tryd.func6, Tryd.ntmps6
  go_wp2_with fail
  go_ret
  exact ⟨rfl, Below.refl _ _⟩
set_option maxRecDepth 100000 in
set_option maxHeartbeats 1000000 in
theorem refused_big2 (a1 a2 : Option Addr) (n1 c1 n2 c2 : Nat) (h0 : n1 ≤ 3000) (h : 3000 < n2) (w : World) :
    Calls Tryd.prog 6 #[.slice a1 n1 c1, .slice a2 n2 c2] w fun e w' => e = .returned (.bool true) ∧ Below w.heap.size w w' := by
  go_enter Tryd.func6, Tryd.ntmps6
  go_wp2_with fail
  go_ret
  exact ⟨rfl, Below.refl _ _⟩

set_option maxRecDepth 100000 in
set_option maxHeartbeats 4000000 in
theorem refused_bad (a1 a2 : Option Addr) (c1 c2 : Nat) (b c : List UInt8) (hb : b.length ≤ 3000) (hc : c.length ≤ 3000) (k1 : b.length ≤ c1) (z1 : a1 = none → c1 = 0) (z2 : a2 = none → c2 = 0) (p : Nat) (hR : Lx.scan b 0 = .bad p) (w : World) (h1 : Holds w a1 b) (h2 : Holds w a2 c) (hg : Good w) :
    Calls Tryd.prog 6 #[.slice a1 b.length c1, .slice a2 c.length c2] w fun e w' => e = .returned (.bool true) ∧ Below w.heap.size w w' := by
  obtain ⟨_, hp, hts⟩ := Lx.scan_refused (b.length + 1) b (by omega) 0 p hR
  rw [Nat.zero_add] at hp
  obtain ⟨ts, hts⟩ := hts p (by omega)
  obtain ⟨a', hsl, hh'⟩ := sub_to c1 k1 h1 p (by omega)
  have hs0 := scan_any a1 c1 b w h1 hg
  rw [scanAll_small (by omega), hR] at hs0
  have hs1 : ∀ w', Below w.heap.size w w' → Calls Tryd.prog 8 #[.slice a' p c1] w' (ScanPost (.good ts) w') := fun w' hb => by
    have := scan_any a' c1 (b.take p) w' (hh'.below (Nat.le_refl _) hb) (hg.below hb)
    rw [scanAll_small (by simp; omega), hts, show (b.take p).length = p from by simp; omega] at this
    exact this
  have hs2 : ∀ w', Below w.heap.size w w' → Calls Tryd.prog 8 #[.slice a2 c.length c2] w' (ScanPost (Lx.scan c 0) w') := fun w' hb => by
    have := scan_any a2 c2 c w' (h2.below (Nat.le_refl _) hb) (hg.below hb)
    rw [scanAll_small (by omega)] at this
    exact this
  have hs3 : ∀ m, Lx.scan c 0 = .good m → ∀ (ad : Option Addr) (cd : Nat) w', Below w.heap.size w w' → Holds w' ad (c ++ 10 :: b) → Calls Tryd.prog 8 #[.slice ad (c ++ 10 :: b).length cd] w' (ScanPost (.bad (p + c.length + 1)) w') := fun m hm ad cd w' hb hh => by
    have := scan_any ad cd (c ++ 10 :: b) w' hh (hg.below hb)
    rw [scanAll_small (by simp; omega), Lx.scan_lf (c.length + 1) c (by omega) b 0 m hm, Lx.scan_shift b, hR] at this
    simp only [Lx.Res.shift, Lx.Res.glue] at this
    rw [show p + (0 + c.length + 1) = p + c.length + 1 from by omega] at this
    exact this
  have hwk : ∀ w', Below w.heap.size w w' → Calls Tryd.prog 11 #[] w' fun e w'' => e = .returned (.bool true) ∧ Below w'.heap.size w' w'' := fun w' hb => xwakes_any w' (hg.below hb)
  have hbH : ∀ w', Below w.heap.size w w' → Holds w' a1 b ∧ Holds w' a2 c := fun w' hb => ⟨h1.below (Nat.le_refl _) hb, h2.below (Nat.le_refl _) hb⟩
  have S0 := Lib.hid hs0; have S1 := Lib.hid hs1; have S2 := Lib.hid hs2; have S3 := Lib.hid hs3; have W := Lib.hid hwk; have HH := Lib.hid hbH; have Z1 := Lib.hid z1; have Z2 := Lib.hid z2
  clear hs0 hs1 hs2 hs3 hwk hbH z1 z2 hR hts hh' h1 h2 hg
  go_enter Tryd.func6, Tryd.ntmps6
  go_wp2_with fail
  refine S0.out.mono ?_
  rintro e w1 ⟨rfl, hb1⟩
  have B1 := Lib.hid hb1
  clear hb1 S0
  go_wp2_with fail
  refine (S1.out _ B1.out).mono ?_
  rintro e w2 ⟨v2, rfl, hown2, hb2⟩
  obtain ⟨a2', c2', rfl⟩ := own_shape' hown2
  have B2 := Lib.hid (B1.out.trans (hb2.mono B1.out.size))
  clear hown2 hb2 S1
  go_wp2_with fail
  cases hm : Lx.scan c 0 with
  | bad q =>
    have s2 := S2.out _ B2.out
    rw [hm] at s2
    refine s2.mono ?_
    rintro e w3 ⟨rfl, hb3⟩
    have B3 := Lib.hid (B2.out.trans (hb3.mono B2.out.size))
    clear hb3 hm s2
    go_wp2_with (go_at_call 11; refine (W.out _ B3.out).mono ?_; rintro e w4 ⟨rfl, hb4⟩)
    go_ret
    exact ⟨rfl, B3.out.trans (hb4.mono B3.out.size)⟩
  | good m =>
    have s2 := S2.out _ B2.out
    rw [hm] at s2
    have S4 := Lib.hid (S3.out m hm)
    refine s2.mono ?_
    rintro e w3 ⟨v3, rfl, hown3, hb3⟩
    obtain ⟨a3, c3, rfl⟩ := own_shape' hown3
    have B3 := Lib.hid (B2.out.trans (hb3.mono B2.out.size))
    clear hb3 hm s2 hown3 S2 S3
    go_wp2_with (first
      | (at_builtin; refine append_bytes rfl (.tmp 68) (.tmp 69) rfl w.heap.size _ 0 [] c rfl (World.ownsRow_lit w3 #[] 0 B3.out.size (by decide) rfl) rfl a2 c.length c2 rfl Z2.out rfl ((HH.out _ (B3.out.alloc B3.out.size _)).2) (by simp; omega) (by have := B3.out.size; simp; omega) ?_; intro v4 w4 hown4 hb4; have B4 := Lib.hid ((B3.out.alloc B3.out.size (.cells #[] 5)).trans hb4); clear hb4)
      | (at_builtin; refine append_bytes rfl (.tmp 70) (.tmp 71) rfl w.heap.size _ _ ([] ++ c) [10] rfl (hown4.alloc _) rfl _ 1 1 rfl (by simp) rfl (holds_new w4 _ [10] _ _ rfl) (by simp; omega) (by have := B4.out.size; simp; omega) ?_; intro v5 w5 hown5 hb5; have B5 := Lib.hid ((B4.out.alloc B4.out.size (.cells #[.int .u8 10] 5)).trans hb5); clear hb5)
      | (at_builtin; refine append_bytes rfl (.tmp 72) (.tmp 73) rfl w.heap.size _ _ ([] ++ c ++ [10]) b rfl hown5 rfl a1 b.length c1 rfl Z1.out rfl ((HH.out _ B5.out).1) (by simp; omega) B5.out.size ?_; intro v6 w6 hown6 hb6; have B6 := Lib.hid (B5.out.trans hb6); clear hb6))
    have e6 : [] ++ c ++ [10] ++ b = c ++ 10 :: b := by simp
    rw [e6] at hown6
    obtain ⟨a6, c6, rfl⟩ := own_shape' hown6
    have H6 := Lib.hid (holds_own hown6).2
    clear hown6 hown5 hown4 e6
    refine (S4.out a6 c6 _ B6.out H6.out).mono ?_
    rintro e w7 ⟨rfl, hb7⟩
    rw [show ((p + c.length + 1 : Nat) : Int) = (p : Int) + (c.length : Int) + 1 from by omega]
    have B7 := Lib.hid (B6.out.trans (hb7.mono B6.out.size))
    clear hb7
    go_wp2_with (go_at_call 11; refine (W.out _ B7.out).mono ?_; rintro e w8 ⟨rfl, hb8⟩)
    go_ret
    exact ⟨rfl, B7.out.trans (hb8.mono B7.out.size)⟩

set_option maxRecDepth 100000 in
set_option maxHeartbeats 4000000 in
theorem refused_good (a1 a2 : Option Addr) (c1 c2 : Nat) (b c : List UInt8) (hb : b.length ≤ 3000) (hc : c.length ≤ 3000) (z1 : a1 = none → c1 = 0) (z2 : a2 = none → c2 = 0) (ts : List Lx.Tok) (hR : Lx.scan b 0 = .good ts) (w : World) (h1 : Holds w a1 b) (h2 : Holds w a2 c) (hg : Good w) :
    Calls Tryd.prog 6 #[.slice a1 b.length c1, .slice a2 c.length c2] w fun e w' => e = .returned (.bool true) ∧ Below w.heap.size w w' := by
  have hs0 := scan_any a1 c1 b w h1 hg
  rw [scanAll_small (by omega), hR] at hs0
  have htl := Lx.scan_len (b.length + 1) b (by omega) 0 ts hR
  have hto := scan_to (b.length + 1) b (by omega) 0 ts hR
  have TO := Lib.hid hto; clear hto
  have hs2 : ∀ w', Below w.heap.size w w' → Calls Tryd.prog 8 #[.slice a2 c.length c2] w' (ScanPost (Lx.scan c 0) w') := fun w' hb => by
    have := scan_any a2 c2 c w' (h2.below (Nat.le_refl _) hb) (hg.below hb)
    rw [scanAll_small (by omega)] at this
    exact this
  have hs3 : ∀ m, Lx.scan c 0 = .good m → ∀ (ad : Option Addr) (cd : Nat) w', Below w.heap.size w w' → Holds w' ad (c ++ 10 :: b) → Calls Tryd.prog 8 #[.slice ad (c ++ 10 :: b).length cd] w' (ScanPost (.good (m ++ ts.map (Lx.Tok.shift (c.length + 1)))) w') := fun m hm ad cd w' hb hh => by
    have := scan_any ad cd (c ++ 10 :: b) w' hh (hg.below hb)
    rw [scanAll_small (by simp; omega), Lx.scan_lf (c.length + 1) c (by omega) b 0 m hm, Lx.scan_shift b, hR] at this
    simp only [Lx.Res.shift, Lx.Res.glue] at this
    rw [show 0 + c.length + 1 = c.length + 1 from by omega] at this
    exact this
  have hml : ∀ m, Lx.scan c 0 = .good m → m.length ≤ c.length := fun m hm => Lx.scan_len (c.length + 1) c (by omega) 0 m hm
  have hwk : ∀ w', Below w.heap.size w w' → Calls Tryd.prog 11 #[] w' fun e w'' => e = .returned (.bool true) ∧ Below w'.heap.size w' w'' := fun w' hb => xwakes_any w' (hg.below hb)
  have hbH : ∀ w', Below w.heap.size w w' → Holds w' a1 b ∧ Holds w' a2 c := fun w' hb => ⟨h1.below (Nat.le_refl _) hb, h2.below (Nat.le_refl _) hb⟩
  have S0 := Lib.hid hs0; have S2 := Lib.hid hs2; have S3 := Lib.hid hs3; have W := Lib.hid hwk; have HH := Lib.hid hbH; have Z1 := Lib.hid z1; have Z2 := Lib.hid z2; have ML := Lib.hid hml
  clear hs0 hs2 hs3 hwk hbH z1 z2 hR h1 h2 hg hml
  go_enter Tryd.func6, Tryd.ntmps6
  go_wp2_with fail
  refine S0.out.mono ?_
  rintro e w1 ⟨v1, rfl, hown1, hb1⟩
  obtain ⟨a1', c1', rfl⟩ := own_shape' hown1
  have T1 := Lib.hid (toks_own hown1).2
  have B1 := Lib.hid hb1
  clear hb1 S0 hown1
  go_wp2_with fail
  cases hm : Lx.scan c 0 with
  | bad q =>
    have s2 := S2.out _ B1.out
    rw [hm] at s2
    refine s2.mono ?_
    rintro e w3 ⟨rfl, hb3⟩
    have B3 := Lib.hid (B1.out.trans (hb3.mono B1.out.size))
    clear hb3 hm s2
    go_wp2_with (go_at_call 11; refine (W.out _ B3.out).mono ?_; rintro e w4 ⟨rfl, hb4⟩)
    go_ret
    exact ⟨rfl, B3.out.trans (hb4.mono B3.out.size)⟩
  | good m =>
    have s2 := S2.out _ B1.out
    rw [hm] at s2
    have S4 := Lib.hid (S3.out m hm)
    have hmc := ML.out m hm
    refine s2.mono ?_
    rintro e w3 ⟨v3, rfl, hown3, hb3⟩
    obtain ⟨a3, c3, rfl⟩ := own_shape' hown3
    have T1' := Lib.hid (T1.out.below (Nat.le_refl _) hb3)
    have T3 := Lib.hid (toks_own hown3).2
    have B3 := Lib.hid (B1.out.trans (hb3.mono B1.out.size))
    clear hb3 hm s2 hown3 S2 S3 T1
    go_wp2_with (first
      | (at_builtin; refine append_bytes rfl (.tmp 68) (.tmp 69) rfl w3.heap.size _ 0 [] c rfl (World.ownsRow_lit w3 #[] 0 (Nat.le_refl _) (by decide) rfl) rfl a2 c.length c2 rfl Z2.out rfl ((HH.out _ (B3.out.alloc B3.out.size _)).2) (by simp; omega) (by simp) ?_; intro v4 w4 hown4 hb4; have B4 := Lib.hid (((Below.refl w3.heap.size w3).alloc (Nat.le_refl _) (.cells #[] 5)).trans hb4); clear hb4)
      | (at_builtin; refine append_bytes rfl (.tmp 70) (.tmp 71) rfl w3.heap.size _ _ ([] ++ c) [10] rfl (hown4.alloc _) rfl _ 1 1 rfl (by simp) rfl (holds_new w4 _ [10] _ _ rfl) (by simp; omega) (by have := B4.out.size; simp; omega) ?_; intro v5 w5 hown5 hb5; have B5 := Lib.hid ((B4.out.alloc B4.out.size (.cells #[.int .u8 10] 5)).trans hb5); clear hb5)
      | (at_builtin; refine append_bytes rfl (.tmp 72) (.tmp 73) rfl w3.heap.size _ _ ([] ++ c ++ [10]) b rfl hown5 rfl a1 b.length c1 rfl Z1.out rfl ((HH.out _ (B3.out.trans (B5.out.mono B3.out.size))).1) (by simp; omega) B5.out.size ?_; intro v6 w6 hown6 hb6; have B6 := Lib.hid (B5.out.trans hb6); clear hb6))
    have e6 : [] ++ c ++ [10] ++ b = c ++ 10 :: b := by simp
    rw [e6] at hown6
    obtain ⟨a6, c6, rfl⟩ := own_shape' hown6
    have H6 := Lib.hid (holds_own hown6).2
    have BW6 := Lib.hid (B3.out.trans (B6.out.mono B3.out.size))
    clear hown6 hown5 hown4 e6
    refine (S4.out a6 c6 _ BW6.out H6.out).mono ?_
    rintro e w7 ⟨v7, rfl, hown7, hb7⟩
    have hlen : (m ++ ts.map (Lx.Tok.shift (c.length + 1))).length = m.length + ts.length := by simp
    obtain ⟨a7, c7, rfl⟩ := own_shape' hown7
    have T7 := Lib.hid (toks_own hown7).2
    have hc7 := own_cap hown7
    rw [hlen]
    rw [hlen] at hc7
    have BT := Lib.hid (B6.out.trans (hb7.mono B6.out.size))
    have T1'' := Lib.hid (T1'.out.below (Nat.le_refl _) BT.out)
    have T3'' := Lib.hid (T3.out.below (Nat.le_refl _) BT.out)
    have BW7 := Lib.hid (B3.out.trans (BT.out.mono B3.out.size))
    clear hb7 hown7 hlen T1' T3 BT
    go_wp2_with fail
    go_loopw [18] (fun i wr => ∃ k : Nat, i = .int .i64 k ∧ k ≤ ts.length ∧ Below w7.heap.size w7 wr) (fun i _ => ts.length - (intOf i).toNat)
    case atStart => exact ⟨0, rfl, Nat.zero_le _, Below.refl _ _⟩
    case round =>
      obtain ⟨k, rfl, hk, hbr⟩ := hrel
      have BR := Lib.hid hbr
      have hbs := hbr.size
      clear hbr
      by_cases hlt : k < ts.length
      · rcases T1''.out.below (Nat.le_refl _) BR.out with h0 | ⟨g1, rfl, hg1, hT1⟩
        · rw [h0] at hlt; simp at hlt
        rcases T7.out.below (Nat.le_refl _) BR.out with h0 | ⟨g7, rfl, hg7, hT7⟩
        · have := congrArg List.length h0
          rw [List.length_append, List.length_map, List.length_nil] at this; omega
        have hto := TO.out ts[k] (List.getElem_mem hlt)
        obtain ⟨d0, d1, d2, d3, d4⟩ := hT1 k hlt
        have hT := hT7 (m.length + k) (by simp; omega)
        rw [List.getElem_append_right (by omega)] at hT
        simp only [Nat.add_sub_cancel_left, List.getElem_map] at hT
        generalize ts[k] = t at *
        obtain ⟨f0, f1, f2, f3, f4⟩ := hT
        simp only [Lx.Tok.shift] at f0 f1 f2 f3 f4
        rw [show ((t.frm + (c.length + 1) : Nat) : Int) = (t.frm : Int) + (c.length : Int) + 1 from by omega] at f1
        rw [show ((t.to_ + (c.length + 1) : Nat) : Int) = (t.to_ : Int) + (c.length : Int) + 1 from by omega] at f2
        have hne := tok_neq
        have hw1 : IntKind.i64.wrap ((m.length : Int) + (k : Int)) = (m.length : Int) + (k : Int) := IntWalk.i64_in _ (by omega)
        have hw2 : (0 : Int) ≤ (m.length : Int) + (k : Int) := by omega
        have hw3 : ((m.length : Int) + (k : Int)).toNat = m.length + k := by omega
        have hw4 : (m.length : Int) + (k : Int) < (m.length : Int) + (ts.length : Int) := by omega
        obtain ⟨t1, t2⟩ := hto
        clear hT1 hT7
        go_wp2_with fail
        go_quiet (fail)
        go_wp2_with fail
        go_roundw
        case rel => exact ⟨k + 1, by go_num, by omega, below_more (((BR.out.alloc hbs _))) _⟩
        case measure => simp [intOf]; omega
      · have T7r := T7.out.below (Nat.le_refl _) BR.out
        have T3r := Lib.hid (T3''.out.below (Nat.le_refl _) BR.out)
        obtain ⟨a8, hsl, T8⟩ := sub_toks (m.length + ts.length) c7 (by omega) T7r
        have htk : ∀ w', Below wr.heap.size wr w' → Calls Tryd.prog 10 #[.slice a8 m.length c7, .slice a3 m.length c3] w' fun e w'' => e = .returned (.bool true) ∧ Below w'.heap.size w' w'' := fun w' hb =>
          tokens_any a8 a3 m.length c7 c3 m rfl (by omega) w' (T8.below (Nat.le_refl _) hb) (T3r.out.below (Nat.le_refl _) hb)
        have TK := Lib.hid (htk _ (Below.refl _ _))
        have BWr := Lib.hid (BW7.out.trans (BR.out.mono BW7.out.size))
        clear T7r T8 htk
        go_wp2_with fail
        refine TK.out.mono ?_
        rintro e w9 ⟨rfl, hb9⟩
        have B9 := Lib.hid (BWr.out.trans (hb9.mono BWr.out.size))
        clear hb9
        go_wp2_with (go_at_call 11; refine (W.out _ B9.out).mono ?_; rintro e w10 ⟨rfl, hb10⟩)
        go_ret
        exact ⟨rfl, B9.out.trans (hb10.mono B9.out.size)⟩

theorem walk_lexRefused {W : World} (x0 : Option Addr) (n0 c0 : Nat) (B0 : BytesAt W x0 n0 c0) (x1 : Option Addr) (n1 c1 : Nat) (B1 : BytesAt W x1 n1 c1) (hg : Good W) :
    Calls Tryd.prog 6 #[.slice x0 n0 c0, .slice x1 n1 c1] W fun e w' => e = .returned (.bool true) ∧ Below W.heap.size W w' := by
  by_cases h0 : 3000 < n0
  · exact refused_big1 x0 x1 n0 c0 n1 c1 h0 W
  by_cases h1 : 3000 < n1
  · exact refused_big2 x0 x1 n0 c0 n1 c1 (by omega) h1 W
  obtain ⟨_, k0, z0, b, rfl, H0⟩ := B0
  obtain ⟨_, k1, z1, c, rfl, H1⟩ := B1
  cases hR : Lx.scan b 0 with
  | bad p => exact refused_bad x0 x1 c0 c1 b c (by omega) (by omega) k0 z0 z1 p hR W H0 H1 hg
  | good ts => exact refused_good x0 x1 c0 c1 b c (by omega) (by omega) z0 z1 ts hR W H0 H1 hg
end Go.Proofs.YthiifacfkeibbaaDoor
