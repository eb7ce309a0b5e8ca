/- The page's pat: is a pattern right, names that occur twice aside? The page's RightPat. -/
import Derived.Test.YtjaaphahfgogdaaGreatTeA
import Derived.Test.YtjaaphahfgogdaaGreatPure
import Derived.Test.YtjaaphahfgogdaaGreatSeqA
namespace Go.Proofs.YtjaaphahfgogdaaGreat
open Go Go.RowKit
open Tr (P)

set_option maxRecDepth 100000 in
set_option maxHeartbeats 16000000 in
theorem rpat_any : ∀ (sz : Nat) (p : P) (a : Option Addr) (cap : Nat) (w : World), Tr.size p ≤ sz → Tr.short p = true → PatAt (LT w.heap.size) w p a cap →
    Calls Tryz.prog 84 #[pv p a cap] w fun e w' => e = .returned (.bool (Tr.right1 p)) ∧ Below w.heap.size w w' := by
  intro sz
  induction sz with
  | zero => intro p a cap w h; have := Tr.size_pos p; omega
  | succ sz ih =>
    intro p a cap w hn hsh hp
    obtain ⟨k, f, t, x, nm, s, l⟩ := p
    obtain ⟨m, hm⟩ : ∃ m, l.length = m := ⟨_, rfl⟩
    have hm2 : (m : Int) ≤ 9223372036854775807 := by have h1 := hp.2.1; have h2 := hp.2.2.1; simp only [Tr.P.kids] at h1; unfold maxLen at h2; omega
    simp only [Tr.size] at hn
    simp only [Tr.short, Bool.and_eq_true, decide_eq_true_eq] at hsh
    obtain ⟨⟨hnl, hsl⟩, hsk⟩ := hsh
    unfold pv
    simp only [Tr.P.kind, Tr.P.frm, Tr.P.til, Tr.P.num, Tr.P.nm, Tr.P.s, Tr.P.kids]
    have hr : Tr.right1 (.mk k f t x nm s l) = (Tr.nodeRight k x nm s m && Tr.rights1 l) := by simp only [Tr.right1, hm]
    rw [hr, hm]
    have hna := fun w => rname_any nm (by omega) w
    obtain ⟨bn, hbn⟩ : ∃ b, Wd.name nm = b := ⟨_, rfl⟩
    rw [hbn] at hna
    have hb0 : Below w.heap.size w (w.alloc (.cells #[.int .i64 k, .int .i64 f, .int .i64 t, .string ⟨nm.toArray⟩, .int .i64 x, .string ⟨s.toArray⟩, .slice a m cap] 50)) := (Below.refl _ _).alloc (Nat.le_refl _) _
    have HP := Lib.hid hp; have HN := Lib.hid hn; have HM := Lib.hid hm; have HSK := Lib.hid hsk; have IH := Lib.hid ih; have HNA := Lib.hid hna; have HBN := Lib.hid hbn; have HB0 := Lib.hid hb0; have HB2 := Lib.hid (fun o : Obj => hb0.alloc hb0.size o)
    clear hp hn hm hsk ih hna hbn hb0 hr
    by_cases hk : k = 1 ∨ k = 2 ∨ k = 3 ∨ k = 4 ∨ k = 5 ∨ k = 6 ∨ k = 7 ∨ k = 8 ∨ k = 9
    case neg =>
      have hno : Tr.nodeRight k x nm s m = false := by
        unfold Tr.nodeRight Tr.parity
        rw [if_neg (by omega), if_neg (by omega)]
        have h1 : decide ((-1 : Int) = (m : Int)) = false := by rw [decide_eq_false_iff_not]; omega
        rw [h1]
        rfl
      rw [hno]
      have g1 : (k == 1) = false := by simp; omega
      have g2 : (k == 2) = false := by simp; omega
      have g3 : (k == 3) = false := by simp; omega
      have g4 : (k == 4) = false := by simp; omega
      have g5 : (k == 5) = false := by simp; omega
      have g6 : (k == 6) = false := by simp; omega
      have g7 : (k == 7) = false := by simp; omega
      have g8 : (k == 8) = false := by simp; omega
      have g9 : (k == 9) = false := by simp; omega
      clear hk
      go_enter Tryz.func84, Tryz.ntmps84
      go_wp2_with fail
      go_ret
      exact ⟨ret_boolP (by simp), HB2.out _⟩
    case pos =>
      rcases hk with rfl | rfl | rfl | rfl | rfl | rfl | rfl | rfl | rfl
      · go_enter Tryz.func84, Tryz.ntmps84
        by_cases h1 : m = 0
        case neg =>
          have g1 : ((m : Int) == 0) = false := by simp; omega
          have g5 : ¬ ((0 : Int) = (m : Int)) := by omega
          go_wp2_with fail
          go_ret
          exact ⟨ret_boolP (by simp [Tr.nodeRight, Tr.parity, g5]), HB2.out _⟩
        subst h1
        by_cases h2 : nm = []
        case neg =>
          have g2 : (nm == []) = false := by simp [h2]
          go_wp2_with fail
          go_ret
          exact ⟨ret_boolP (by simp [Tr.nodeRight, Tr.parity, h2]), HB2.out _⟩
        subst h2
        by_cases h3 : x = 0
        case neg =>
          have g3 : (x == 0) = false := by simp [h3]
          go_wp2_with fail
          go_ret
          exact ⟨ret_boolP (by simp [Tr.nodeRight, Tr.parity, h3]), HB2.out _⟩
        subst h3
        by_cases h4 : s = []
        case neg =>
          have g4 : (s == []) = false := by simp [h4]
          go_wp2_with fail
          go_ret
          exact ⟨ret_boolP (by simp [Tr.nodeRight, Tr.parity, h4]), HB2.out _⟩
        subst h4
        have hnr : Tr.nodeRight 1 0 [] [] 0 = true := by simp [Tr.nodeRight, Tr.parity]
        have HNR := Lib.hid hnr
        clear hnr
        go_wp2_with fail
        obtain ⟨wl, hwl⟩ : ∃ wl, (w.alloc (.cells #[.int .i64 1, .int .i64 f, .int .i64 t, .string ⟨#[]⟩, .int .i64 0, .string ⟨#[]⟩, .slice a 0 cap] 50)).alloc (.cells #[.int .i64 1, .int .i64 0, .int .i64 0, .string ⟨#[]⟩, .int .i64 0, .string ⟨#[]⟩, .slice none 0 0] 50) = wl := ⟨_, rfl⟩
        have hbl : Below w.heap.size w wl := by rw [← hwl]; exact HB2.out _
        have hbxl : wl.heap[w.heap.size]? = some (.cells #[.int .i64 1, .int .i64 f, .int .i64 t, .string ⟨#[]⟩, .int .i64 0, .string ⟨#[]⟩, .slice a 0 cap] 50) := by rw [← hwl]; exact box1 w _ _ _ _
        have hsl : w.heap.size < wl.heap.size := (Array.getElem?_eq_some_iff.1 hbxl).1
        rw [hwl]
        have HBL := Lib.hid hbl; have HBXL := Lib.hid hbxl; have HSL := Lib.hid hsl
        clear hwl hbl hbxl hsl
        go_loopg [5] 0 (fun gk v wr => ∃ j : Nat, j ≤ 0 ∧ v = .int .i64 (j : Int) ∧ Tr.rights1 (l.take j) = true ∧ Below wl.heap.size wl wr ∧ gk = 0 - j)
        case atStart => exact ⟨0, Nat.zero_le _, rfl, rfl, Below.refl _ _, rfl⟩
        case round =>
          obtain ⟨j, hj, rfl, hrt, hb, rfl⟩ := hrel
          obtain ⟨c0, c1, c2, c3, c4, c5, c6⟩ := pbox HBXL.out (hb.block w.heap.size HSL.out)
          have hbw : Below w.heap.size w wr := HBL.out.trans (hb.mono HBL.out.size)
          have HB := Lib.hid hb; have HBW := Lib.hid hbw; have HRT := Lib.hid hrt
          clear hb hbw hrt
          by_cases hlt : j < 0
          · omega
          · obtain rfl : j = 0 := by omega
            go_wp2_with fail
            go_ret
            exact ⟨ret_boolP (by rw [HNR.out, List.eq_nil_of_length_eq_zero HM.out]; rfl), HBW.out⟩
      · go_enter Tryz.func84, Tryz.ntmps84
        go_wp2_with fail
        refine (HNA.out _).mono ?_
        rintro e w1 ⟨rfl, rfl⟩
        cases bn with
        | false =>
          have hbn := HBN.out
          go_wp2_with fail
          go_ret
          exact ⟨ret_boolP (by simp [Tr.nodeRight, Tr.parity, hbn]), HB2.out _⟩
        | true =>
          have hbn := HBN.out
          by_cases h1 : m = 0
          case neg =>
            have g1 : ((m : Int) == 0) = false := by simp; omega
            have g5 : ¬ ((0 : Int) = (m : Int)) := by omega
            go_wp2_with fail
            go_ret
            exact ⟨ret_boolP (by simp [Tr.nodeRight, Tr.parity, g5]), HB2.out _⟩
          subst h1
          by_cases h3 : x = 0
          case neg =>
            have g3 : (x == 0) = false := by simp [h3]
            go_wp2_with fail
            go_ret
            exact ⟨ret_boolP (by simp [Tr.nodeRight, Tr.parity, h3]), HB2.out _⟩
          subst h3
          by_cases h4 : s = []
          case neg =>
            have g4 : (s == []) = false := by simp [h4]
            go_wp2_with fail
            go_ret
            exact ⟨ret_boolP (by simp [Tr.nodeRight, Tr.parity, h4]), HB2.out _⟩
          subst h4
          have hnr : Tr.nodeRight 2 0 nm [] 0 = true := by simp [Tr.nodeRight, Tr.parity, hbn]
          have HNR := Lib.hid hnr
          clear hnr
          go_wp2_with fail
          obtain ⟨wl, hwl⟩ : ∃ wl, (w.alloc (.cells #[.int .i64 2, .int .i64 f, .int .i64 t, .string ⟨nm.toArray⟩, .int .i64 0, .string ⟨#[]⟩, .slice a 0 cap] 50)).alloc (.cells #[.int .i64 2, .int .i64 0, .int .i64 0, .string ⟨nm.toArray⟩, .int .i64 0, .string ⟨#[]⟩, .slice none 0 0] 50) = wl := ⟨_, rfl⟩
          have hbl : Below w.heap.size w wl := by rw [← hwl]; exact HB2.out _
          have hbxl : wl.heap[w.heap.size]? = some (.cells #[.int .i64 2, .int .i64 f, .int .i64 t, .string ⟨nm.toArray⟩, .int .i64 0, .string ⟨#[]⟩, .slice a 0 cap] 50) := by rw [← hwl]; exact box1 w _ _ _ _
          have hsl : w.heap.size < wl.heap.size := (Array.getElem?_eq_some_iff.1 hbxl).1
          rw [hwl]
          have HBL := Lib.hid hbl; have HBXL := Lib.hid hbxl; have HSL := Lib.hid hsl
          clear hwl hbl hbxl hsl
          go_loopg [5] 0 (fun gk v wr => ∃ j : Nat, j ≤ 0 ∧ v = .int .i64 (j : Int) ∧ Tr.rights1 (l.take j) = true ∧ Below wl.heap.size wl wr ∧ gk = 0 - j)
          case atStart => exact ⟨0, Nat.zero_le _, rfl, rfl, Below.refl _ _, rfl⟩
          case round =>
            obtain ⟨j, hj, rfl, hrt, hb, rfl⟩ := hrel
            obtain ⟨c0, c1, c2, c3, c4, c5, c6⟩ := pbox HBXL.out (hb.block w.heap.size HSL.out)
            have hbw : Below w.heap.size w wr := HBL.out.trans (hb.mono HBL.out.size)
            have HB := Lib.hid hb; have HBW := Lib.hid hbw; have HRT := Lib.hid hrt
            clear hb hbw hrt
            by_cases hlt : j < 0
            · omega
            · obtain rfl : j = 0 := by omega
              go_wp2_with fail
              go_ret
              exact ⟨ret_boolP (by rw [HNR.out, List.eq_nil_of_length_eq_zero HM.out]; rfl), HBW.out⟩
      · go_enter Tryz.func84, Tryz.ntmps84
        by_cases h1 : m = 0
        case neg =>
          have g1 : ((m : Int) == 0) = false := by simp; omega
          have g5 : ¬ ((0 : Int) = (m : Int)) := by omega
          go_wp2_with fail
          go_ret
          exact ⟨ret_boolP (by simp [Tr.nodeRight, Tr.parity, g5]), HB2.out _⟩
        subst h1
        by_cases h2 : nm = []
        case neg =>
          have g2 : (nm == []) = false := by simp [h2]
          go_wp2_with fail
          go_ret
          exact ⟨ret_boolP (by simp [Tr.nodeRight, Tr.parity, h2]), HB2.out _⟩
        subst h2
        by_cases h4 : s = []
        case neg =>
          have g4 : (s == []) = false := by simp [h4]
          go_wp2_with fail
          go_ret
          exact ⟨ret_boolP (by simp [Tr.nodeRight, Tr.parity, h4]), HB2.out _⟩
        subst h4
        have hnr : Tr.nodeRight 3 x [] [] 0 = true := by simp [Tr.nodeRight, Tr.parity]
        have HNR := Lib.hid hnr
        clear hnr
        go_wp2_with fail
        obtain ⟨wl, hwl⟩ : ∃ wl, (w.alloc (.cells #[.int .i64 3, .int .i64 f, .int .i64 t, .string ⟨#[]⟩, .int .i64 x, .string ⟨#[]⟩, .slice a 0 cap] 50)).alloc (.cells #[.int .i64 3, .int .i64 0, .int .i64 0, .string ⟨#[]⟩, .int .i64 x, .string ⟨#[]⟩, .slice none 0 0] 50) = wl := ⟨_, rfl⟩
        have hbl : Below w.heap.size w wl := by rw [← hwl]; exact HB2.out _
        have hbxl : wl.heap[w.heap.size]? = some (.cells #[.int .i64 3, .int .i64 f, .int .i64 t, .string ⟨#[]⟩, .int .i64 x, .string ⟨#[]⟩, .slice a 0 cap] 50) := by rw [← hwl]; exact box1 w _ _ _ _
        have hsl : w.heap.size < wl.heap.size := (Array.getElem?_eq_some_iff.1 hbxl).1
        rw [hwl]
        have HBL := Lib.hid hbl; have HBXL := Lib.hid hbxl; have HSL := Lib.hid hsl
        clear hwl hbl hbxl hsl
        go_loopg [5] 0 (fun gk v wr => ∃ j : Nat, j ≤ 0 ∧ v = .int .i64 (j : Int) ∧ Tr.rights1 (l.take j) = true ∧ Below wl.heap.size wl wr ∧ gk = 0 - j)
        case atStart => exact ⟨0, Nat.zero_le _, rfl, rfl, Below.refl _ _, rfl⟩
        case round =>
          obtain ⟨j, hj, rfl, hrt, hb, rfl⟩ := hrel
          obtain ⟨c0, c1, c2, c3, c4, c5, c6⟩ := pbox HBXL.out (hb.block w.heap.size HSL.out)
          have hbw : Below w.heap.size w wr := HBL.out.trans (hb.mono HBL.out.size)
          have HB := Lib.hid hb; have HBW := Lib.hid hbw; have HRT := Lib.hid hrt
          clear hb hbw hrt
          by_cases hlt : j < 0
          · omega
          · obtain rfl : j = 0 := by omega
            go_wp2_with fail
            go_ret
            exact ⟨ret_boolP (by rw [HNR.out, List.eq_nil_of_length_eq_zero HM.out]; rfl), HBW.out⟩
      · go_enter Tryz.func84, Tryz.ntmps84
        by_cases hx4 : 0 ≤ x ∧ x ≤ 1
        case neg =>
          by_cases hx5 : x < 0
          · have hx6 : decide (0 ≤ x ∧ x ≤ 1) = false := decide_eq_false hx4
            go_wp2_with fail
            go_ret
            exact ⟨ret_boolP (by simp [Tr.nodeRight, Tr.parity, hx6]), HB2.out _⟩
          · have hx7 : x > 1 := by omega
            have hx6 : decide (0 ≤ x ∧ x ≤ 1) = false := decide_eq_false hx4
            go_wp2_with fail
            go_ret
            exact ⟨ret_boolP (by simp [Tr.nodeRight, Tr.parity, hx6]), HB2.out _⟩
        have hx5 : ¬ x < 0 := by omega
        have hx7 : ¬ x > 1 := by omega
        have hx6 : decide (0 ≤ x ∧ x ≤ 1) = true := decide_eq_true hx4
        by_cases h1 : m = 0
        case neg =>
          have g1 : ((m : Int) == 0) = false := by simp; omega
          have g5 : ¬ ((0 : Int) = (m : Int)) := by omega
          go_wp2_with fail
          go_ret
          exact ⟨ret_boolP (by simp [Tr.nodeRight, Tr.parity, g5]), HB2.out _⟩
        subst h1
        by_cases h2 : nm = []
        case neg =>
          have g2 : (nm == []) = false := by simp [h2]
          go_wp2_with fail
          go_ret
          exact ⟨ret_boolP (by simp [Tr.nodeRight, Tr.parity, h2]), HB2.out _⟩
        subst h2
        by_cases h4 : s = []
        case neg =>
          have g4 : (s == []) = false := by simp [h4]
          go_wp2_with fail
          go_ret
          exact ⟨ret_boolP (by simp [Tr.nodeRight, Tr.parity, h4]), HB2.out _⟩
        subst h4
        have hnr : Tr.nodeRight 4 x [] [] 0 = true := by simp [Tr.nodeRight, Tr.parity, hx6]
        have HNR := Lib.hid hnr
        clear hnr
        go_wp2_with fail
        obtain ⟨wl, hwl⟩ : ∃ wl, (w.alloc (.cells #[.int .i64 4, .int .i64 f, .int .i64 t, .string ⟨#[]⟩, .int .i64 x, .string ⟨#[]⟩, .slice a 0 cap] 50)).alloc (.cells #[.int .i64 4, .int .i64 0, .int .i64 0, .string ⟨#[]⟩, .int .i64 x, .string ⟨#[]⟩, .slice none 0 0] 50) = wl := ⟨_, rfl⟩
        have hbl : Below w.heap.size w wl := by rw [← hwl]; exact HB2.out _
        have hbxl : wl.heap[w.heap.size]? = some (.cells #[.int .i64 4, .int .i64 f, .int .i64 t, .string ⟨#[]⟩, .int .i64 x, .string ⟨#[]⟩, .slice a 0 cap] 50) := by rw [← hwl]; exact box1 w _ _ _ _
        have hsl : w.heap.size < wl.heap.size := (Array.getElem?_eq_some_iff.1 hbxl).1
        rw [hwl]
        have HBL := Lib.hid hbl; have HBXL := Lib.hid hbxl; have HSL := Lib.hid hsl
        clear hwl hbl hbxl hsl
        go_loopg [5] 0 (fun gk v wr => ∃ j : Nat, j ≤ 0 ∧ v = .int .i64 (j : Int) ∧ Tr.rights1 (l.take j) = true ∧ Below wl.heap.size wl wr ∧ gk = 0 - j)
        case atStart => exact ⟨0, Nat.zero_le _, rfl, rfl, Below.refl _ _, rfl⟩
        case round =>
          obtain ⟨j, hj, rfl, hrt, hb, rfl⟩ := hrel
          obtain ⟨c0, c1, c2, c3, c4, c5, c6⟩ := pbox HBXL.out (hb.block w.heap.size HSL.out)
          have hbw : Below w.heap.size w wr := HBL.out.trans (hb.mono HBL.out.size)
          have HB := Lib.hid hb; have HBW := Lib.hid hbw; have HRT := Lib.hid hrt
          clear hb hbw hrt
          by_cases hlt : j < 0
          · omega
          · obtain rfl : j = 0 := by omega
            go_wp2_with fail
            go_ret
            exact ⟨ret_boolP (by rw [HNR.out, List.eq_nil_of_length_eq_zero HM.out]; rfl), HBW.out⟩
      · go_enter Tryz.func84, Tryz.ntmps84
        by_cases hs5 : s.length ≤ 200
        case neg =>
          have hs7 : (s.length : Int) > 200 := by omega
          have hs6 : decide (s.length ≤ 200) = false := decide_eq_false hs5
          go_wp2_with fail
          go_ret
          exact ⟨ret_boolP (by simp [Tr.nodeRight, Tr.parity, hs6]), HB2.out _⟩
        have hs7 : ¬ (s.length : Int) > 200 := by omega
        have hs6 : decide (s.length ≤ 200) = true := decide_eq_true hs5
        by_cases h1 : m = 0
        case neg =>
          have g1 : ((m : Int) == 0) = false := by simp; omega
          have g5 : ¬ ((0 : Int) = (m : Int)) := by omega
          go_wp2_with fail
          go_ret
          exact ⟨ret_boolP (by simp [Tr.nodeRight, Tr.parity, g5]), HB2.out _⟩
        subst h1
        by_cases h2 : nm = []
        case neg =>
          have g2 : (nm == []) = false := by simp [h2]
          go_wp2_with fail
          go_ret
          exact ⟨ret_boolP (by simp [Tr.nodeRight, Tr.parity, h2]), HB2.out _⟩
        subst h2
        by_cases h3 : x = 0
        case neg =>
          have g3 : (x == 0) = false := by simp [h3]
          go_wp2_with fail
          go_ret
          exact ⟨ret_boolP (by simp [Tr.nodeRight, Tr.parity, h3]), HB2.out _⟩
        subst h3
        have hnr : Tr.nodeRight 5 0 [] s 0 = true := by simp [Tr.nodeRight, Tr.parity, hs6]
        have HNR := Lib.hid hnr
        clear hnr
        go_wp2_with fail
        obtain ⟨wl, hwl⟩ : ∃ wl, (w.alloc (.cells #[.int .i64 5, .int .i64 f, .int .i64 t, .string ⟨#[]⟩, .int .i64 0, .string ⟨s.toArray⟩, .slice a 0 cap] 50)).alloc (.cells #[.int .i64 5, .int .i64 0, .int .i64 0, .string ⟨#[]⟩, .int .i64 0, .string ⟨s.toArray⟩, .slice none 0 0] 50) = wl := ⟨_, rfl⟩
        have hbl : Below w.heap.size w wl := by rw [← hwl]; exact HB2.out _
        have hbxl : wl.heap[w.heap.size]? = some (.cells #[.int .i64 5, .int .i64 f, .int .i64 t, .string ⟨#[]⟩, .int .i64 0, .string ⟨s.toArray⟩, .slice a 0 cap] 50) := by rw [← hwl]; exact box1 w _ _ _ _
        have hsl : w.heap.size < wl.heap.size := (Array.getElem?_eq_some_iff.1 hbxl).1
        rw [hwl]
        have HBL := Lib.hid hbl; have HBXL := Lib.hid hbxl; have HSL := Lib.hid hsl
        clear hwl hbl hbxl hsl
        go_loopg [5] 0 (fun gk v wr => ∃ j : Nat, j ≤ 0 ∧ v = .int .i64 (j : Int) ∧ Tr.rights1 (l.take j) = true ∧ Below wl.heap.size wl wr ∧ gk = 0 - j)
        case atStart => exact ⟨0, Nat.zero_le _, rfl, rfl, Below.refl _ _, rfl⟩
        case round =>
          obtain ⟨j, hj, rfl, hrt, hb, rfl⟩ := hrel
          obtain ⟨c0, c1, c2, c3, c4, c5, c6⟩ := pbox HBXL.out (hb.block w.heap.size HSL.out)
          have hbw : Below w.heap.size w wr := HBL.out.trans (hb.mono HBL.out.size)
          have HB := Lib.hid hb; have HBW := Lib.hid hbw; have HRT := Lib.hid hrt
          clear hb hbw hrt
          by_cases hlt : j < 0
          · omega
          · obtain rfl : j = 0 := by omega
            go_wp2_with fail
            go_ret
            exact ⟨ret_boolP (by rw [HNR.out, List.eq_nil_of_length_eq_zero HM.out]; rfl), HBW.out⟩
      · go_enter Tryz.func84, Tryz.ntmps84
        by_cases h1 : m = 0
        case neg =>
          have g1 : ((m : Int) == 0) = false := by simp; omega
          have g5 : ¬ ((0 : Int) = (m : Int)) := by omega
          go_wp2_with fail
          go_ret
          exact ⟨ret_boolP (by simp [Tr.nodeRight, Tr.parity, g5]), HB2.out _⟩
        subst h1
        by_cases h2 : nm = []
        case neg =>
          have g2 : (nm == []) = false := by simp [h2]
          go_wp2_with fail
          go_ret
          exact ⟨ret_boolP (by simp [Tr.nodeRight, Tr.parity, h2]), HB2.out _⟩
        subst h2
        by_cases h3 : x = 0
        case neg =>
          have g3 : (x == 0) = false := by simp [h3]
          go_wp2_with fail
          go_ret
          exact ⟨ret_boolP (by simp [Tr.nodeRight, Tr.parity, h3]), HB2.out _⟩
        subst h3
        by_cases h4 : s = []
        case neg =>
          have g4 : (s == []) = false := by simp [h4]
          go_wp2_with fail
          go_ret
          exact ⟨ret_boolP (by simp [Tr.nodeRight, Tr.parity, h4]), HB2.out _⟩
        subst h4
        have hnr : Tr.nodeRight 6 0 [] [] 0 = true := by simp [Tr.nodeRight, Tr.parity]
        have HNR := Lib.hid hnr
        clear hnr
        go_wp2_with fail
        obtain ⟨wl, hwl⟩ : ∃ wl, (w.alloc (.cells #[.int .i64 6, .int .i64 f, .int .i64 t, .string ⟨#[]⟩, .int .i64 0, .string ⟨#[]⟩, .slice a 0 cap] 50)).alloc (.cells #[.int .i64 6, .int .i64 0, .int .i64 0, .string ⟨#[]⟩, .int .i64 0, .string ⟨#[]⟩, .slice none 0 0] 50) = wl := ⟨_, rfl⟩
        have hbl : Below w.heap.size w wl := by rw [← hwl]; exact HB2.out _
        have hbxl : wl.heap[w.heap.size]? = some (.cells #[.int .i64 6, .int .i64 f, .int .i64 t, .string ⟨#[]⟩, .int .i64 0, .string ⟨#[]⟩, .slice a 0 cap] 50) := by rw [← hwl]; exact box1 w _ _ _ _
        have hsl : w.heap.size < wl.heap.size := (Array.getElem?_eq_some_iff.1 hbxl).1
        rw [hwl]
        have HBL := Lib.hid hbl; have HBXL := Lib.hid hbxl; have HSL := Lib.hid hsl
        clear hwl hbl hbxl hsl
        go_loopg [5] 0 (fun gk v wr => ∃ j : Nat, j ≤ 0 ∧ v = .int .i64 (j : Int) ∧ Tr.rights1 (l.take j) = true ∧ Below wl.heap.size wl wr ∧ gk = 0 - j)
        case atStart => exact ⟨0, Nat.zero_le _, rfl, rfl, Below.refl _ _, rfl⟩
        case round =>
          obtain ⟨j, hj, rfl, hrt, hb, rfl⟩ := hrel
          obtain ⟨c0, c1, c2, c3, c4, c5, c6⟩ := pbox HBXL.out (hb.block w.heap.size HSL.out)
          have hbw : Below w.heap.size w wr := HBL.out.trans (hb.mono HBL.out.size)
          have HB := Lib.hid hb; have HBW := Lib.hid hbw; have HRT := Lib.hid hrt
          clear hb hbw hrt
          by_cases hlt : j < 0
          · omega
          · obtain rfl : j = 0 := by omega
            go_wp2_with fail
            go_ret
            exact ⟨ret_boolP (by rw [HNR.out, List.eq_nil_of_length_eq_zero HM.out]; rfl), HBW.out⟩
      · go_enter Tryz.func84, Tryz.ntmps84
        by_cases h1 : m = 2
        case neg =>
          have g1 : ((m : Int) == 2) = false := by simp; omega
          have g5 : ¬ ((2 : Int) = (m : Int)) := by omega
          go_wp2_with fail
          go_ret
          exact ⟨ret_boolP (by simp [Tr.nodeRight, Tr.parity, g5]), HB2.out _⟩
        subst h1
        by_cases h2 : nm = []
        case neg =>
          have g2 : (nm == []) = false := by simp [h2]
          go_wp2_with fail
          go_ret
          exact ⟨ret_boolP (by simp [Tr.nodeRight, Tr.parity, h2]), HB2.out _⟩
        subst h2
        by_cases h3 : x = 0
        case neg =>
          have g3 : (x == 0) = false := by simp [h3]
          go_wp2_with fail
          go_ret
          exact ⟨ret_boolP (by simp [Tr.nodeRight, Tr.parity, h3]), HB2.out _⟩
        subst h3
        by_cases h4 : s = []
        case neg =>
          have g4 : (s == []) = false := by simp [h4]
          go_wp2_with fail
          go_ret
          exact ⟨ret_boolP (by simp [Tr.nodeRight, Tr.parity, h4]), HB2.out _⟩
        subst h4
        have hnr : Tr.nodeRight 7 0 [] [] 2 = true := by simp [Tr.nodeRight, Tr.parity]
        have HNR := Lib.hid hnr
        clear hnr
        go_wp2_with fail
        obtain ⟨wl, hwl⟩ : ∃ wl, (w.alloc (.cells #[.int .i64 7, .int .i64 f, .int .i64 t, .string ⟨#[]⟩, .int .i64 0, .string ⟨#[]⟩, .slice a 2 cap] 50)).alloc (.cells #[.int .i64 7, .int .i64 0, .int .i64 0, .string ⟨#[]⟩, .int .i64 0, .string ⟨#[]⟩, .slice none 0 0] 50) = wl := ⟨_, rfl⟩
        have hbl : Below w.heap.size w wl := by rw [← hwl]; exact HB2.out _
        have hbxl : wl.heap[w.heap.size]? = some (.cells #[.int .i64 7, .int .i64 f, .int .i64 t, .string ⟨#[]⟩, .int .i64 0, .string ⟨#[]⟩, .slice a 2 cap] 50) := by rw [← hwl]; exact box1 w _ _ _ _
        have hsl : w.heap.size < wl.heap.size := (Array.getElem?_eq_some_iff.1 hbxl).1
        rw [hwl]
        have HBL := Lib.hid hbl; have HBXL := Lib.hid hbxl; have HSL := Lib.hid hsl
        clear hwl hbl hbxl hsl
        go_loopg [5] 2 (fun gk v wr => ∃ j : Nat, j ≤ 2 ∧ v = .int .i64 (j : Int) ∧ Tr.rights1 (l.take j) = true ∧ Below wl.heap.size wl wr ∧ gk = 2 - j)
        case atStart => exact ⟨0, Nat.zero_le _, rfl, rfl, Below.refl _ _, rfl⟩
        case round =>
          obtain ⟨j, hj, rfl, hrt, hb, rfl⟩ := hrel
          obtain ⟨c0, c1, c2, c3, c4, c5, c6⟩ := pbox HBXL.out (hb.block w.heap.size HSL.out)
          have hbw : Below w.heap.size w wr := HBL.out.trans (hb.mono HBL.out.size)
          have HB := Lib.hid hb; have HBW := Lib.hid hbw; have HRT := Lib.hid hrt
          clear hb hbw hrt
          by_cases hlt : j < 2
          · have hjl : j < l.length := by rw [HM.out]; exact hlt
            obtain ⟨b, o, xa, xc, rfl, hbn2, hx, hcs⟩ := pkid_at HP.out HBW.out (Nat.le_refl _) (k := j) hjl
            simp only [Tr.P.kids] at hx hcs
            have hsk := Tr.size_kid l j hjl
            have hcall := IH.out l[j] xa xc wr (by have := HN.out; omega) (Tr.shorts_get l j hjl HSK.out) hx
            have hst := Tr.rights1_take l j hjl
            have hge := Tr.rights1_get l j hjl
            obtain ⟨q, hq⟩ : ∃ q, l[j] = q := ⟨_, rfl⟩
            rw [hq] at hcall hst hge hcs
            obtain ⟨e0, e1, e2, e3, e4, e5, e6⟩ := hcs
            obtain ⟨rq, hrq⟩ : ∃ r, Tr.right1 q = r := ⟨_, rfl⟩
            rw [hrq] at hcall hst hge
            unfold pv at hcall
            have HC := Lib.hid hcall; have HST := Lib.hid hst; have HGE := Lib.hid hge
            clear hcall hst hge hx hsk hq hrq
            go_wp2_with fail
            refine HC.out.mono ?_
            rintro e w' ⟨rfl, hb'⟩
            cases rq with
            | true =>
              go_wp2_with fail
              go_roundg (2 - (j + 1))
              case measure => omega
              case rel => exact ⟨j + 1, by omega, by first | rfl | go_num, by rw [HST.out, HRT.out]; rfl, HB.out.trans (hb'.mono HB.out.size), rfl⟩
            | false =>
              go_wp2_with fail
              go_ret
              exact ⟨ret_boolP (by rw [HGE.out (by trivial)]; simp), HBW.out.trans (hb'.mono HBW.out.size)⟩
          · obtain rfl : j = 2 := by omega
            go_wp2_with fail
            go_ret
            exact ⟨ret_boolP (by have := HRT.out; rw [List.take_of_length_le (by rw [HM.out]; exact Nat.le_refl _)] at this; rw [HNR.out, this]; rfl), HBW.out⟩
      · go_enter Tryz.func84, Tryz.ntmps84
        by_cases h1 : m = 0
        case neg =>
          have g1 : ((m : Int) == 0) = false := by simp; omega
          have g5 : ¬ ((0 : Int) = (m : Int)) := by omega
          go_wp2_with fail
          go_ret
          exact ⟨ret_boolP (by simp [Tr.nodeRight, Tr.parity, g5]), HB2.out _⟩
        subst h1
        by_cases h2 : nm = []
        case neg =>
          have g2 : (nm == []) = false := by simp [h2]
          go_wp2_with fail
          go_ret
          exact ⟨ret_boolP (by simp [Tr.nodeRight, Tr.parity, h2]), HB2.out _⟩
        subst h2
        by_cases h3 : x = 0
        case neg =>
          have g3 : (x == 0) = false := by simp [h3]
          go_wp2_with fail
          go_ret
          exact ⟨ret_boolP (by simp [Tr.nodeRight, Tr.parity, h3]), HB2.out _⟩
        subst h3
        by_cases h4 : s = []
        case neg =>
          have g4 : (s == []) = false := by simp [h4]
          go_wp2_with fail
          go_ret
          exact ⟨ret_boolP (by simp [Tr.nodeRight, Tr.parity, h4]), HB2.out _⟩
        subst h4
        have hnr : Tr.nodeRight 8 0 [] [] 0 = true := by simp [Tr.nodeRight, Tr.parity]
        have HNR := Lib.hid hnr
        clear hnr
        go_wp2_with fail
        obtain ⟨wl, hwl⟩ : ∃ wl, (w.alloc (.cells #[.int .i64 8, .int .i64 f, .int .i64 t, .string ⟨#[]⟩, .int .i64 0, .string ⟨#[]⟩, .slice a 0 cap] 50)).alloc (.cells #[.int .i64 8, .int .i64 0, .int .i64 0, .string ⟨#[]⟩, .int .i64 0, .string ⟨#[]⟩, .slice none 0 0] 50) = wl := ⟨_, rfl⟩
        have hbl : Below w.heap.size w wl := by rw [← hwl]; exact HB2.out _
        have hbxl : wl.heap[w.heap.size]? = some (.cells #[.int .i64 8, .int .i64 f, .int .i64 t, .string ⟨#[]⟩, .int .i64 0, .string ⟨#[]⟩, .slice a 0 cap] 50) := by rw [← hwl]; exact box1 w _ _ _ _
        have hsl : w.heap.size < wl.heap.size := (Array.getElem?_eq_some_iff.1 hbxl).1
        rw [hwl]
        have HBL := Lib.hid hbl; have HBXL := Lib.hid hbxl; have HSL := Lib.hid hsl
        clear hwl hbl hbxl hsl
        go_loopg [5] 0 (fun gk v wr => ∃ j : Nat, j ≤ 0 ∧ v = .int .i64 (j : Int) ∧ Tr.rights1 (l.take j) = true ∧ Below wl.heap.size wl wr ∧ gk = 0 - j)
        case atStart => exact ⟨0, Nat.zero_le _, rfl, rfl, Below.refl _ _, rfl⟩
        case round =>
          obtain ⟨j, hj, rfl, hrt, hb, rfl⟩ := hrel
          obtain ⟨c0, c1, c2, c3, c4, c5, c6⟩ := pbox HBXL.out (hb.block w.heap.size HSL.out)
          have hbw : Below w.heap.size w wr := HBL.out.trans (hb.mono HBL.out.size)
          have HB := Lib.hid hb; have HBW := Lib.hid hbw; have HRT := Lib.hid hrt
          clear hb hbw hrt
          by_cases hlt : j < 0
          · omega
          · obtain rfl : j = 0 := by omega
            go_wp2_with fail
            go_ret
            exact ⟨ret_boolP (by rw [HNR.out, List.eq_nil_of_length_eq_zero HM.out]; rfl), HBW.out⟩
      · go_enter Tryz.func84, Tryz.ntmps84
        by_cases h1 : m = 2
        case neg =>
          have g1 : ((m : Int) == 2) = false := by simp; omega
          have g5 : ¬ ((2 : Int) = (m : Int)) := by omega
          go_wp2_with fail
          go_ret
          exact ⟨ret_boolP (by simp [Tr.nodeRight, Tr.parity, g5]), HB2.out _⟩
        subst h1
        by_cases h2 : nm = []
        case neg =>
          have g2 : (nm == []) = false := by simp [h2]
          go_wp2_with fail
          go_ret
          exact ⟨ret_boolP (by simp [Tr.nodeRight, Tr.parity, h2]), HB2.out _⟩
        subst h2
        by_cases h3 : x = 0
        case neg =>
          have g3 : (x == 0) = false := by simp [h3]
          go_wp2_with fail
          go_ret
          exact ⟨ret_boolP (by simp [Tr.nodeRight, Tr.parity, h3]), HB2.out _⟩
        subst h3
        by_cases h4 : s = []
        case neg =>
          have g4 : (s == []) = false := by simp [h4]
          go_wp2_with fail
          go_ret
          exact ⟨ret_boolP (by simp [Tr.nodeRight, Tr.parity, h4]), HB2.out _⟩
        subst h4
        have hnr : Tr.nodeRight 9 0 [] [] 2 = true := by simp [Tr.nodeRight, Tr.parity]
        have HNR := Lib.hid hnr
        clear hnr
        go_wp2_with fail
        obtain ⟨wl, hwl⟩ : ∃ wl, (w.alloc (.cells #[.int .i64 9, .int .i64 f, .int .i64 t, .string ⟨#[]⟩, .int .i64 0, .string ⟨#[]⟩, .slice a 2 cap] 50)).alloc (.cells #[.int .i64 9, .int .i64 0, .int .i64 0, .string ⟨#[]⟩, .int .i64 0, .string ⟨#[]⟩, .slice none 0 0] 50) = wl := ⟨_, rfl⟩
        have hbl : Below w.heap.size w wl := by rw [← hwl]; exact HB2.out _
        have hbxl : wl.heap[w.heap.size]? = some (.cells #[.int .i64 9, .int .i64 f, .int .i64 t, .string ⟨#[]⟩, .int .i64 0, .string ⟨#[]⟩, .slice a 2 cap] 50) := by rw [← hwl]; exact box1 w _ _ _ _
        have hsl : w.heap.size < wl.heap.size := (Array.getElem?_eq_some_iff.1 hbxl).1
        rw [hwl]
        have HBL := Lib.hid hbl; have HBXL := Lib.hid hbxl; have HSL := Lib.hid hsl
        clear hwl hbl hbxl hsl
        go_loopg [5] 2 (fun gk v wr => ∃ j : Nat, j ≤ 2 ∧ v = .int .i64 (j : Int) ∧ Tr.rights1 (l.take j) = true ∧ Below wl.heap.size wl wr ∧ gk = 2 - j)
        case atStart => exact ⟨0, Nat.zero_le _, rfl, rfl, Below.refl _ _, rfl⟩
        case round =>
          obtain ⟨j, hj, rfl, hrt, hb, rfl⟩ := hrel
          obtain ⟨c0, c1, c2, c3, c4, c5, c6⟩ := pbox HBXL.out (hb.block w.heap.size HSL.out)
          have hbw : Below w.heap.size w wr := HBL.out.trans (hb.mono HBL.out.size)
          have HB := Lib.hid hb; have HBW := Lib.hid hbw; have HRT := Lib.hid hrt
          clear hb hbw hrt
          by_cases hlt : j < 2
          · have hjl : j < l.length := by rw [HM.out]; exact hlt
            obtain ⟨b, o, xa, xc, rfl, hbn2, hx, hcs⟩ := pkid_at HP.out HBW.out (Nat.le_refl _) (k := j) hjl
            simp only [Tr.P.kids] at hx hcs
            have hsk := Tr.size_kid l j hjl
            have hcall := IH.out l[j] xa xc wr (by have := HN.out; omega) (Tr.shorts_get l j hjl HSK.out) hx
            have hst := Tr.rights1_take l j hjl
            have hge := Tr.rights1_get l j hjl
            obtain ⟨q, hq⟩ : ∃ q, l[j] = q := ⟨_, rfl⟩
            rw [hq] at hcall hst hge hcs
            obtain ⟨e0, e1, e2, e3, e4, e5, e6⟩ := hcs
            obtain ⟨rq, hrq⟩ : ∃ r, Tr.right1 q = r := ⟨_, rfl⟩
            rw [hrq] at hcall hst hge
            unfold pv at hcall
            have HC := Lib.hid hcall; have HST := Lib.hid hst; have HGE := Lib.hid hge
            clear hcall hst hge hx hsk hq hrq
            go_wp2_with fail
            refine HC.out.mono ?_
            rintro e w' ⟨rfl, hb'⟩
            cases rq with
            | true =>
              go_wp2_with fail
              go_roundg (2 - (j + 1))
              case measure => omega
              case rel => exact ⟨j + 1, by omega, by first | rfl | go_num, by rw [HST.out, HRT.out]; rfl, HB.out.trans (hb'.mono HB.out.size), rfl⟩
            | false =>
              go_wp2_with fail
              go_ret
              exact ⟨ret_boolP (by rw [HGE.out (by trivial)]; simp), HBW.out.trans (hb'.mono HBW.out.size)⟩
          · obtain rfl : j = 2 := by omega
            go_wp2_with fail
            go_ret
            exact ⟨ret_boolP (by have := HRT.out; rw [List.take_of_length_le (by rw [HM.out]; exact Nat.le_refl _)] at this; rw [HNR.out, this]; rfl), HBW.out⟩
end Go.Proofs.YtjaaphahfgogdaaGreat
namespace Go.Proofs.YtjaaphahfgogdaaGreat
open Go Go.RowKit
open Tr (P)

theorem elem_strs : Tryz.prog.underlying 34 = some (.slice (Tryz.prog.elem 34)) := by kernel_rfl
theorem size_strs (w : World) : (sizeOf (Tryz.prog.elem 34)).run Tryz.prog w = .ok 1 w := by kernel_rfl
theorem strs_take (a : Option Addr) (n cap k : Nat) (hc : k ≤ cap) : ∃ a', (∀ w' : World, (Instr.slice 34 (.slice a n cap) none (some (.int .i64 (k : Int))) none).run Tryz.prog w' = .ok (.slice a' k cap) w') ∧ (∀ {w : World} {L : List (List UInt8)}, SRow w a L → SRow w a' (L.take k)) := by
  refine ⟨if cap = 0 then a else a.map (·.add (0 * 1)), fun w' => ?_, fun {w L} h => ?_⟩
  · rw [run_slice_h w' _ a n cap elem_strs .i64 (k : Int) (by omega) (by omega), size_strs]
    simp [Result.andThen, sliced]
  · have := h.take k
    rcases this with h0 | ⟨b, o, e, h2, h3⟩
    · exact .inl h0
    · refine .inr ⟨b, o, ?_, h2, h3⟩
      subst e
      split <;> simp [Addr.add]
theorem own_le {w : World} {B n n' cap sz : Nat} {e : TypeId} {a : Option Addr} {xs : List Value} (h : w.ownsRow B e sz (.slice a n cap) n' xs) : n ≤ cap := by
  rcases h.2 with ⟨h1, h2⟩ | ⟨g, cp, cur, h1, h2, h3, h4, h5, _⟩
  · injection h1 with q1 q2 q3; omega
  · injection h1 with q1 q2 q3; omega
theorem nodup_take_succ {L : List (List UInt8)} {k : Nat} (h : k < L.length) : (L.take (k + 1)).Nodup ↔ (L.take k).Nodup ∧ L[k] ∉ L.take k := by
  rw [List.take_succ_eq_append_getElem h, List.nodup_append]
  constructor
  · rintro ⟨h1, _, h3⟩
    exact ⟨h1, fun hm => h3 _ hm _ (List.mem_singleton.2 rfl) rfl⟩
  · rintro ⟨h1, h2⟩
    refine ⟨h1, by simp, fun a ha b hb e => ?_⟩
    rw [List.mem_singleton.1 hb] at e
    exact h2 (e ▸ ha)
theorem nodup_of_take {L : List (List UInt8)} {k : Nat} (h : ¬ (L.take k).Nodup) : ¬ L.Nodup := fun hn => h (hn.sublist (List.take_sublist k L))
set_option maxRecDepth 100000 in
set_option maxHeartbeats 4000000 in
theorem rRightPat_any (p : P) (a : Option Addr) (cap : Nat) (w : World) (hsh : Tr.short p = true) (hs : Tr.size p ≤ 10000) (hp : PatAt (LT w.heap.size) w p a cap) :
    Calls Tryz.prog 47 #[pv p a cap] w fun e w' => e = .returned (.bool (Tr.right p)) ∧ Below w.heap.size w w' := by
  have hb0 : Below w.heap.size w (w.alloc (.cells #[.int .i64 p.kind, .int .i64 p.frm, .int .i64 p.til, .string ⟨p.nm.toArray⟩, .int .i64 p.num, .string ⟨p.s.toArray⟩, .slice a p.kids.length cap] 50)) := (Below.refl _ _).alloc (Nat.le_refl _) _
  have hnw := World.alloc_heap_new w (.cells #[.int .i64 p.kind, .int .i64 p.frm, .int .i64 p.til, .string ⟨p.nm.toArray⟩, .int .i64 p.num, .string ⟨p.s.toArray⟩, .slice a p.kids.length cap] 50)
  have hs1 : (w.alloc (.cells #[.int .i64 p.kind, .int .i64 p.frm, .int .i64 p.til, .string ⟨p.nm.toArray⟩, .int .i64 p.num, .string ⟨p.s.toArray⟩, .slice a p.kids.length cap] 50)).heap.size = w.heap.size + 1 := by simp
  generalize hw1 : w.alloc (.cells #[.int .i64 p.kind, .int .i64 p.frm, .int .i64 p.til, .string ⟨p.nm.toArray⟩, .int .i64 p.num, .string ⟨p.s.toArray⟩, .slice a p.kids.length cap] 50) = w1 at hb0 hnw hs1
  have hc1 := rpat_any _ p a cap w1 (Nat.le_refl _) hsh (pat_later hp hb0)
  have hc2 := fun w2 (hb : Below w1.heap.size w1 w2) => rNames_any p a cap w2 hs (pat_later (pat_later hp hb0) hb)
  have hln := Tr.names_len p
  obtain ⟨L, hL⟩ : ∃ L, Tr.names p = L := ⟨_, rfl⟩
  have hres : Tr.right p = (Tr.right1 p && decide L.Nodup) := by unfold Tr.right Tr.distinct; rw [hL]
  rw [hL] at hc2 hln
  obtain ⟨r1, hr1⟩ : ∃ r, Tr.right1 p = r := ⟨_, rfl⟩
  rw [hr1] at hc1 hres
  rw [hres]
  unfold pv at hc1 hc2 ⊢
  obtain ⟨c0, c1, c2, c3, c4, c5, c6⟩ := pbox hnw rfl
  have HC1 := Lib.hid hc1; have HC2 := Lib.hid hc2; have HB0 := Lib.hid hb0; have HW1 := Lib.hid hw1; have HNW := Lib.hid hnw; have HS1 := Lib.hid hs1; have HLN := Lib.hid (show L.length ≤ 10000 by omega)
  clear hc1 hc2 hb0 hw1 hnw hs1 hln hL hres hr1 hp hsh hs
  go_enter Tryz.func47, Tryz.ntmps47
  go_upto_region 1 with fail
  rw [HW1.out]
  go_wp2_with fail
  refine HC1.out.mono ?_
  rintro e w2 ⟨rfl, hb2⟩
  clear c0 c1 c2 c3 c4 c5 c6
  have HB2 := Lib.hid hb2
  have HBW2 := Lib.hid (HB0.out.trans (hb2.mono HB0.out.size))
  cases r1 with
  | false =>
    clear hb2
    go_wp2_with fail
    go_ret
    exact ⟨rfl, HBW2.out⟩
  | true =>
    obtain ⟨c0, c1, c2, c3, c4, c5, c6⟩ := pbox HNW.out (hb2.block w.heap.size (by have := HS1.out; omega))
    clear hb2
    go_wp2_with fail
    refine (HC2.out _ HB2.out).mono ?_
    rintro e w3 ⟨v, rfl, hown, hb3⟩
    clear c0 c1 c2 c3 c4 c5 c6
    obtain ⟨va, vc, rfl⟩ := own_shapeT hown
    have hrow := (SRow.of_own hown).2
    have hcap := own_le hown
    have HBW3 := Lib.hid (HBW2.out.trans (hb3.mono HBW2.out.size))
    obtain ⟨m, hm⟩ : ∃ m, L.length = m := ⟨_, rfl⟩
    have hln := HLN.out
    rw [hm] at hcap hln ⊢
    have HROW := Lib.hid hrow; have HM := Lib.hid hm
    clear hown hb3 hrow hm
    go_wp2_with fail
    go_loopg [4] m (fun gk v wr => ∃ j : Nat, j ≤ m ∧ v = .int .i64 (j : Int) ∧ (L.take j).Nodup ∧ Below w3.heap.size w3 wr ∧ gk = m - j)
    case atStart => exact ⟨0, Nat.zero_le _, rfl, by simp, Below.refl _ _, rfl⟩
    case round =>
      obtain ⟨j, hj, rfl, hnd, hb, rfl⟩ := hrel
      have HB := Lib.hid hb; have HND := Lib.hid hnd
      clear hb hnd
      by_cases hlt : j < m
      · have hjl : j < L.length := by rw [HM.out]; exact hlt
        obtain ⟨va2, hsl, hst⟩ := strs_take va m vc j (by omega)
        have hrow2 := hst (HROW.out.below HB.out (Nat.le_refl _))
        rcases HROW.out.below HB.out (Nat.le_refl _) with h0 | ⟨b, o, e, hb, hc⟩
        · rw [h0] at hjl; simp at hjl
        subst e
        have hcj := hc j hjl
        unfold strV at hcj
        have hns := nodup_take_succ hjl
        have hlk : (L.take j).length = j := by rw [List.length_take]; omega
        have hhas := fun wx (hbx : Below wr.heap.size wr wx) => rhas_any (L.take j) va2 vc L[j] wx (by rw [hlk]; omega) (hrow2.below hbx (Nat.le_refl _))
        rw [hlk] at hhas
        obtain ⟨x, hx⟩ : ∃ x, L[j] = x := ⟨_, rfl⟩
        rw [hx] at hhas hcj hns
        obtain ⟨bq, hbq⟩ : ∃ b, decide (x ∈ L.take j) = b := ⟨_, rfl⟩
        rw [hbq] at hhas
        have HHAS := Lib.hid hhas; have HNS := Lib.hid hns; have HBQ := Lib.hid hbq
        clear hhas hns hbq hrow2 hc hst hlk hx hb hjl
        go_upto_region 7 with fail
        refine wp_region_seq [(0, false), (0, false), (0, false), (0, false), (0, false), (0, false), (0, false), (0, true)] (by kernel_rfl) (by kernel_rfl) (by kernel_rfl) (fun _ _ _ d _ h => by cases d <;> exact h) ?_
        have c0 : wr.drew.cell? ⟨b, o + j, none⟩ = some (.string ⟨x.toArray⟩) := hcj
        repeat
          (first | with_reducible refine sp0 (fun K hK => ?_) | with_reducible refine sp1 (fun K hK => ?_)
           go_simp
           first
           | (with_reducible refine hK _ _ ?_; clear hK K)
           | (with_reducible apply Exists.intro
              refine ⟨fun x hx => ?_, hK _ _ ?_⟩
              first
                | (with_reducible exact rfl)
                | (have y0 := keepc hx c0; go_simp; done)
                | (have y0 := keepc hx c0; go_simp; with_reducible exact rfl)
              clear hK K))
        with_reducible refine sc0 (fun K hK => ?_)
        go_simp
        refine (HHAS.out _ (Below.refl _ _).drew).mono ?_
        rintro e w4 ⟨rfl, hw4⟩
        have hb4 : Below wr.heap.size wr w4 := by rw [← hw4]; exact (Below.refl _ _).drew
        refine ⟨by rw [hw4]; exact Below.refl _ _, hK _ _ ?_⟩
        clear hK K c0
        with_reducible refine seq_nil ?_
        have HB4 := Lib.hid (HB.out.trans (hb4.mono HB.out.size))
        clear hb4 hw4
        cases bq with
        | true =>
          have hno : ¬ L.Nodup := nodup_of_take (k := j + 1) (fun h => (HNS.out.1 h).2 (of_decide_eq_true HBQ.out))
          have HNO := Lib.hid hno
          clear hno
          go_wp2_with fail
          go_ret
          exact ⟨ret_boolP (by simp [HNO.out]), HBW3.out.trans (HB4.out.mono HBW3.out.size)⟩
        | false =>
          go_wp2_with fail
          go_roundg (m - (j + 1))
          case measure => omega
          case rel => exact ⟨j + 1, by omega, by first | rfl | go_num, HNS.out.2 ⟨HND.out, of_decide_eq_false HBQ.out⟩, HB4.out, rfl⟩
      · obtain rfl : j = m := by omega
        go_wp2_with fail
        go_ret
        refine ⟨ret_boolP ?_, HBW3.out.trans (HB.out.mono HBW3.out.size)⟩
        have := HND.out
        rw [List.take_of_length_le (by rw [HM.out]; exact Nat.le_refl _)] at this
        simp [this]
set_option maxRecDepth 100000 in
theorem isPat_any (p : P) (a : Option Addr) (cap : Nat) (w : World) (hsh : Tr.short p = true) (hs : Tr.size p ≤ 10000) (hp : PatAt (LT w.heap.size) w p a cap) :
    Calls Tryz.prog 36 #[pv p a cap] w fun e w' => e = .returned (.bool (Tr.right p)) ∧ Below w.heap.size w w' := by
  have hb0 : Below w.heap.size w (w.alloc (.cells #[.int .i64 p.kind, .int .i64 p.frm, .int .i64 p.til, .string ⟨p.nm.toArray⟩, .int .i64 p.num, .string ⟨p.s.toArray⟩, .slice a p.kids.length cap] 50)) := (Below.refl _ _).alloc (Nat.le_refl _) _
  have hcl := rRightPat_any p a cap _ hsh hs (pat_later hp hb0)
  unfold pv at hcl ⊢
  have HCL := Lib.hid hcl; have HB0 := Lib.hid hb0
  clear hcl hb0 hp hs hsh
  go_enter Tryz.func36, Tryz.ntmps36
  go_wp2_with fail
  refine HCL.out.mono ?_
  rintro e w' ⟨rfl, hb'⟩
  have HB' := Lib.hid (HB0.out.trans (hb'.mono HB0.out.size))
  clear hb'
  go_wp2_with fail
  go_ret
  exact ⟨rfl, HB'.out⟩
end Go.Proofs.YtjaaphahfgogdaaGreat
