/- The walk of the law on other blanks between the tokens. -/
import Derived.Test.YthiifacfkeibbaaDoorBytes
import Derived.Deep.DeepCutAuto
import Derived.Deep.CutRange
import Derived.Lib.AppendStr
namespace Go.Proofs.YthiifacfkeibbaaDoor
open Go Go.RowKit
open Go.Proofs

def kix (how : List UInt8) (i : Nat) : Nat := if how = [] then 0 else (how.getD (i % how.length) 0).toNat % 7
theorem kix_lt (how : List UInt8) (i : Nat) : kix how i < 7 := by unfold kix; split <;> omega
def blk (how : List UInt8) (i : Nat) : List UInt8 := Lx.sevenB.getD (kix how i) [32]
theorem blk_mem (how : List UInt8) (i : Nat) : blk how i ∈ Lx.sevenB := by
  have h := kix_lt how i
  unfold blk
  generalize kix how i = k at *
  match k, h with
  | 0, _ => decide
  | 1, _ => decide
  | 2, _ => decide
  | 3, _ => decide
  | 4, _ => decide
  | 5, _ => decide
  | 6, _ => decide
theorem blk_len (how : List UInt8) (i : Nat) : (blk how i).length ≤ 8 := by
  have h := kix_lt how i
  unfold blk
  generalize kix how i = k at *
  match k, h with
  | 0, _ => decide
  | 1, _ => decide
  | 2, _ => decide
  | 3, _ => decide
  | 4, _ => decide
  | 5, _ => decide
  | 6, _ => decide
theorem strCells_eq (l : List UInt8) : Lib.strCells ⟨l.toArray⟩ = Lib.byteCells l := by
  simp [Lib.strCells, Lib.byteCells]

theorem own_app {w : World} {B : Nat} {v : Value} {X l : List UInt8} {s : ByteArray} (hs : s = ⟨l.toArray⟩) (h : w.ownsRow B 5 1 v (X.length + s.size) (Lib.byteCells X ++ Lib.strCells s)) :
    w.ownsRow B 5 1 v (X ++ l).length (Lib.byteCells (X ++ l)) := by
  subst hs
  rw [strCells_eq, ba_size] at h
  have e : Lib.byteCells (X ++ l) = Lib.byteCells X ++ Lib.byteCells l := by unfold Lib.byteCells; rw [List.map_append]
  rw [e, List.length_append]; exact h

set_option maxRecDepth 100000 in
set_option maxHeartbeats 1000000 in
theorem blanks_big1 (a1 a2 : Option Addr) (n1 c1 n2 c2 : Nat) (h : 3000 < n1) (w : World) :
    Calls Tryd.prog 4 #[.slice a1 n1 c1, .slice a2 n2 c2] w fun e w' => e = .returned (.bool true) ∧ Below w.heap.size w w' := by
  go_enter Tryd.func4, Tryd.ntmps4
  go_wp2_with fail
  go_ret
  exact ⟨rfl, Below.refl _ _⟩
set_option maxRecDepth 100000 in
set_option maxHeartbeats 1000000 in
theorem blanks_big2 (a1 a2 : Option Addr) (n1 c1 n2 c2 : Nat) (h0 : n1 ≤ 3000) (h : 40 < n2) (w : World) :
    Calls Tryd.prog 4 #[.slice a1 n1 c1, .slice a2 n2 c2] w fun e w' => e = .returned (.bool true) ∧ Below w.heap.size w w' := by
  go_enter Tryd.func4, Tryd.ntmps4
  go_wp2_with fail
  go_ret
  exact ⟨rfl, Below.refl _ _⟩

set_option maxRecDepth 100000 in
set_option maxHeartbeats 1000000 in
theorem blanks_bad (a1 a2 : Option Addr) (c1 n2 c2 : Nat) (b : List UInt8) (hb : b.length ≤ 3000) (h2 : n2 ≤ 40) (p : Nat) (hR : Lx.scan b 0 = .bad p) (w : World) (h1 : Holds w a1 b) (hg : Good w) :
    Calls Tryd.prog 4 #[.slice a1 b.length c1, .slice a2 n2 c2] w fun e w' => e = .returned (.bool true) ∧ Below w.heap.size w w' := by
  have hs := scan_any a1 c1 b w h1 hg
  rw [scanAll_small (by omega), hR] at hs
  have HS := Lib.hid hs; have HG := Lib.hid hg
  clear hs hR hg
  go_enter Tryd.func4, Tryd.ntmps4
  go_wp2_with fail
  refine HS.out.mono ?_
  rintro e w1 ⟨rfl, hb1⟩
  have HG1 := Lib.hid (HG.out.below hb1)
  go_wp2_with (go_at_call 11; refine (xwakes_any _ HG1.out).mono ?_; rintro e w2 ⟨rfl, hb2⟩)
  go_ret
  exact ⟨rfl, hb1.trans (hb2.mono hb1.size)⟩

set_option maxRecDepth 100000 in
set_option maxHeartbeats 4000000 in
theorem blanks_good (a1 a2 : Option Addr) (c1 c2 : Nat) (b how : List UInt8) (hb : b.length ≤ 3000) (h2 : how.length ≤ 40) (k1 : b.length ≤ c1) (ts : List Lx.Tok) (hR : Lx.scan b 0 = .good ts) (w : World) (h1 : Holds w a1 b) (hh : Holds w a2 how) (hg : Good w) :
    Calls Tryd.prog 4 #[.slice a1 b.length c1, .slice a2 how.length c2] w fun e w' => e = .returned (.bool true) ∧ Below w.heap.size w w' := by
  have hs := scan_any a1 c1 b w h1 hg
  rw [scanAll_small (by omega), hR] at hs
  have htl := Lx.scan_len (b.length + 1) b (by omega) 0 ts hR
  have hto := scan_to (b.length + 1) b (by omega) 0 ts hR
  have hlt2 := scan_lt (b.length + 1) b (by omega) 0 ts hR
  have TO := Lib.hid hto; have TLT := Lib.hid hlt2
  clear hto hlt2
  obtain ⟨i0, hi, hz0, hz1, hz2⟩ := info_parts info_u8
  obtain ⟨TOT, hT⟩ : ∃ TOT, TOT = Lx.blend b (blk how) 0 ts := ⟨_, rfl⟩
  have HS := Lib.hid hs; have HG := Lib.hid hg; have HR := Lib.hid hR; have H1 := Lib.hid h1; have H2 := Lib.hid hh; have HT := Lib.hid hT
  clear hs hg hR h1 hh hT
  go_enter Tryd.func4, Tryd.ntmps4
  go_wp2_with fail
  refine HS.out.mono ?_
  rintro e w1 ⟨v1, rfl, hown1, hb1⟩
  obtain ⟨a1', c1', rfl⟩ := own_shape' hown1
  have T1 := Lib.hid (toks_own hown1).2
  have B1 := Lib.hid hb1
  have TL := Lib.hid htl
  clear hown1 hb1 HS
  go_wp2_with fail
  go_loopw [8, 9] (fun v iv wr => ∃ (i : Nat) (X : List UInt8), iv = .int .i64 i ∧ X.length ≤ 16384 ∧ wr.ownsRow w1.heap.size 5 1 v X.length (Lib.byteCells X) ∧ ((i ≤ ts.length ∧ TOT = X ++ Lx.blend b (blk how) i (ts.drop i)) ∨ (i = ts.length + 1 ∧ TOT = X)) ∧ Below w1.heap.size w1 wr) (fun _ iv _ => ts.length + 1 - (intOf iv).toNat)
  case atStart => exact ⟨0, [], rfl, by simp, World.ownsRow_nil _ _ _ _, Or.inl ⟨Nat.zero_le _, by rw [HT.out]; rfl⟩, Below.refl _ _⟩
  case round =>
    obtain ⟨i, X, rfl, hX, hown, hcase, hbr⟩ := hrel
    have BR := Lib.hid hbr
    have hbs := hbr.size
    obtain ⟨av, cv, rfl⟩ := own_shape' hown
    clear hbr
    rcases hcase with ⟨hin, htot⟩ | ⟨hin, htot⟩
    · have HTOT := Lib.hid htot; clear htot
      have BW := Lib.hid (B1.out.trans (BR.out.mono B1.out.size))
      have H2r := Lib.hid (H2.out.below (Nat.le_refl _) BW.out)
      have hin' : (i : Int) ≤ (ts.length : Int) := by omega
      go_upto_if 44 with fail
      go_cut [10] (fun v wx => v = .int .i64 (kix how i : Int) ∧ wx = wr)
      case first =>
        by_cases h0 : how = []
        · have e : kix how i = 0 := by unfold kix; rw [if_pos h0]
          have hl0 : how.length = 0 := by rw [h0]; rfl
          have E := Lib.hid e; have L0 := Lib.hid hl0
          have hle : how.length ≤ 0 := by omega
          clear e hl0 h0
          go_wp2_with fail
          go_meet
          exact ⟨by rw [E.out]; rfl, rfl⟩
        · have hp : 0 < how.length := List.length_pos_iff.2 h0
          rcases H2r.out with h0' | ⟨g2, o2, rfl, hg2, hc2⟩
          · exact absurd h0' h0
          have hlt : i % how.length < how.length := Nat.mod_lt _ hp
          have hcell := hc2 (i % how.length) hlt
          have hki : (kix how i : Int) = ((how[i % how.length]).toNat : Int) % 7 := by unfold kix; rw [if_neg h0]; simp [List.getD, List.getElem?_eq_getElem hlt]
          have HKI := Lib.hid hki
          clear hki hc2 h0
          generalize how[i % how.length] = x at *
          have hx := x.toNat_lt
          go_wp2_with fail
          go_meet
          exact ⟨by rw [HKI.out], rfl⟩
      case rest =>
      obtain ⟨rfl, rfl⟩ := hcut
      go_upto_region 13 with fail
      go_cut [8, 10] (fun v _ wx => wx.ownsRow w1.heap.size 5 1 v (X ++ blk how i).length (Lib.byteCells (X ++ blk how i)) ∧ Below w1.heap.size w1 wx)
      case first =>
        have hk7 := kix_lt how i
        have hbk : ∀ k, kix how i = k → blk how i = Lx.sevenB.getD k [32] := fun k e => by unfold blk; rw [e]
        rcases (by omega : kix how i = 0 ∨ kix how i = 1 ∨ kix how i = 2 ∨ kix how i = 3 ∨ kix how i = 4 ∨ kix how i = 5 ∨ kix how i = 6) with e | e | e | e | e | e | e
        · have HBK := Lib.hid (hbk _ e)
          clear hbk hk7
          rw [e]
          clear e
          go_wp2_with (at_builtin; refine Lib.wpList_append_own_string _ rfl (.tmp 54) (.tmp 58) 22 9 rfl w1.heap.size 5 i0 Tryd.underlying22 Tryd.underlying9 hi hz0 hz1 hz2 _ X.length (Lib.byteCells X) rfl (hown.alloc _) { data := #[32] } rfl (show X.length + 1 ≤ maxLen by unfold maxLen; omega) (show X.length + 1 ≤ _ by omega) (by simp; omega) ?_; intro v' w' hown' hg' _)
          go_wp2_with fail
          go_meet
          refine ⟨?_, (BR.out.alloc hbs _).grown hg' (by simp; omega) (fun k hk => (hown.lt k hk).1)⟩
          rw [HBK.out]
          exact own_app rfl hown'
        · have HBK := Lib.hid (hbk _ e)
          clear hbk hk7
          rw [e]
          clear e
          go_wp2_with (at_builtin; refine Lib.wpList_append_own_string _ rfl (.tmp 54) (.tmp 58) 22 9 rfl w1.heap.size 5 i0 Tryd.underlying22 Tryd.underlying9 hi hz0 hz1 hz2 _ X.length (Lib.byteCells X) rfl (hown.alloc _) { data := #[10] } rfl (show X.length + 1 ≤ maxLen by unfold maxLen; omega) (show X.length + 1 ≤ _ by omega) (by simp; omega) ?_; intro v' w' hown' hg' _)
          go_wp2_with fail
          go_meet
          refine ⟨?_, (BR.out.alloc hbs _).grown hg' (by simp; omega) (fun k hk => (hown.lt k hk).1)⟩
          rw [HBK.out]
          exact own_app rfl hown'
        · have HBK := Lib.hid (hbk _ e)
          clear hbk hk7
          rw [e]
          clear e
          go_wp2_with (at_builtin; refine Lib.wpList_append_own_string _ rfl (.tmp 54) (.tmp 58) 22 9 rfl w1.heap.size 5 i0 Tryd.underlying22 Tryd.underlying9 hi hz0 hz1 hz2 _ X.length (Lib.byteCells X) rfl (hown.alloc _) { data := #[9, 13] } rfl (show X.length + 2 ≤ maxLen by unfold maxLen; omega) (show X.length + 2 ≤ _ by omega) (by simp; omega) ?_; intro v' w' hown' hg' _)
          go_wp2_with fail
          go_meet
          refine ⟨?_, (BR.out.alloc hbs _).grown hg' (by simp; omega) (fun k hk => (hown.lt k hk).1)⟩
          rw [HBK.out]
          exact own_app rfl hown'
        · have HBK := Lib.hid (hbk _ e)
          clear hbk hk7
          rw [e]
          clear e
          go_wp2_with (at_builtin; refine Lib.wpList_append_own_string _ rfl (.tmp 54) (.tmp 58) 22 9 rfl w1.heap.size 5 i0 Tryd.underlying22 Tryd.underlying9 hi hz0 hz1 hz2 _ X.length (Lib.byteCells X) rfl (hown.alloc _) { data := #[32, 32] } rfl (show X.length + 2 ≤ maxLen by unfold maxLen; omega) (show X.length + 2 ≤ _ by omega) (by simp; omega) ?_; intro v' w' hown' hg' _)
          go_wp2_with fail
          go_meet
          refine ⟨?_, (BR.out.alloc hbs _).grown hg' (by simp; omega) (fun k hk => (hown.lt k hk).1)⟩
          rw [HBK.out]
          exact own_app rfl hown'
        · have HBK := Lib.hid (hbk _ e)
          clear hbk hk7
          rw [e]
          clear e
          go_wp2_with (at_builtin; refine Lib.wpList_append_own_string _ rfl (.tmp 54) (.tmp 58) 22 9 rfl w1.heap.size 5 i0 Tryd.underlying22 Tryd.underlying9 hi hz0 hz1 hz2 _ X.length (Lib.byteCells X) rfl (hown.alloc _) { data := #[35, 32, 120, 32, 36, 32, 34, 10] } rfl (show X.length + 8 ≤ maxLen by unfold maxLen; omega) (show X.length + 8 ≤ _ by omega) (by simp; omega) ?_; intro v' w' hown' hg' _)
          go_wp2_with fail
          go_meet
          refine ⟨?_, (BR.out.alloc hbs _).grown hg' (by simp; omega) (fun k hk => (hown.lt k hk).1)⟩
          rw [HBK.out]
          exact own_app rfl hown'
        · have HBK := Lib.hid (hbk _ e)
          clear hbk hk7
          rw [e]
          clear e
          go_wp2_with (at_builtin; refine Lib.wpList_append_own_string _ rfl (.tmp 54) (.tmp 58) 22 9 rfl w1.heap.size 5 i0 Tryd.underlying22 Tryd.underlying9 hi hz0 hz1 hz2 _ X.length (Lib.byteCells X) rfl (hown.alloc _) { data := #[10, 35, 10] } rfl (show X.length + 3 ≤ maxLen by unfold maxLen; omega) (show X.length + 3 ≤ _ by omega) (by simp; omega) ?_; intro v' w' hown' hg' _)
          go_wp2_with fail
          go_meet
          refine ⟨?_, (BR.out.alloc hbs _).grown hg' (by simp; omega) (fun k hk => (hown.lt k hk).1)⟩
          rw [HBK.out]
          exact own_app rfl hown'
        · have HBK := Lib.hid (hbk _ e)
          clear hbk hk7
          rw [e]
          clear e
          go_wp2_with (at_builtin; refine Lib.wpList_append_own_string _ rfl (.tmp 54) (.tmp 58) 22 9 rfl w1.heap.size 5 i0 Tryd.underlying22 Tryd.underlying9 hi hz0 hz1 hz2 _ X.length (Lib.byteCells X) rfl (hown.alloc _) { data := #[32, 35, 126, 10, 10] } rfl (show X.length + 5 ≤ maxLen by unfold maxLen; omega) (show X.length + 5 ≤ _ by omega) (by simp; omega) ?_; intro v' w' hown' hg' _)
          go_wp2_with fail
          go_meet
          refine ⟨?_, (BR.out.alloc hbs _).grown hg' (by simp; omega) (fun k hk => (hown.lt k hk).1)⟩
          rw [HBK.out]
          exact own_app rfl hown'
      case rest =>
        obtain ⟨hownX, hbX⟩ := hcut
        have hXl := blk_len how i
        have BX := Lib.hid hbX
        have hbs2 := hbX.size
        obtain ⟨ax, cx, rfl⟩ := own_shape' hownX
        have hlenX : (X ++ blk how i).length ≤ X.length + 8 := by rw [List.length_append]; omega
        obtain ⟨Y, hY⟩ : ∃ Y, Y = X ++ blk how i := ⟨_, rfl⟩
        rw [← hY] at hownX hlenX ⊢
        have HY := Lib.hid hY
        clear hY hbX hXl hown hbs
        by_cases hlt : i < ts.length
        · have hdr : ts.drop i = ts[i] :: ts.drop (i + 1) := List.drop_eq_getElem_cons hlt
          have htot2 : TOT = (Y ++ (b.drop ts[i].frm).take (ts[i].to_ - ts[i].frm)) ++ Lx.blend b (blk how) (i + 1) (ts.drop (i + 1)) := by
            rw [HTOT.out, HY.out, hdr]; simp [Lx.blend]
          have hto := (TO.out ts[i] (List.getElem_mem hlt)).2
          have hft := TLT.out ts[i] (List.getElem_mem hlt)
          rw [Nat.zero_add] at hto
          rcases T1.out.below (Nat.le_refl _) BX.out with h0 | ⟨g1, rfl, hg1, hT1⟩
          · rw [h0] at hlt; simp at hlt
          obtain ⟨d0, d1, d2, d3, d4⟩ := hT1 i hlt
          have HT2 := Lib.hid htot2
          clear hdr htot2 hT1 d0 d3 d4
          generalize ts[i] = t at *
          have BWX := Lib.hid (B1.out.trans (BX.out.mono B1.out.size))
          obtain ⟨asl, hsl, hhs⟩ := sub_bytes c1 k1 (H1.out.below (Nat.le_refl _) BWX.out) t.frm t.to_ (by omega) hto
          have hne : (b.drop t.frm).take (t.to_ - t.frm) ≠ [] := by
            intro e
            have := congrArg List.length e
            rw [List.length_take, List.length_drop, List.length_nil] at this; omega
          rcases hhs with h0 | ⟨gs, osl, rfl, hgs, hcs⟩
          · exact absurd h0 hne
          have hPl : ((b.drop t.frm).take (t.to_ - t.frm)).length = t.to_ - t.frm := by rw [List.length_take, List.length_drop]; omega
          obtain ⟨P, hP⟩ : ∃ P, P = (b.drop t.frm).take (t.to_ - t.frm) := ⟨_, rfl⟩
          rw [← hP] at hPl hcs HT2
          obtain ⟨m, hm⟩ : ∃ m, m = t.to_ - t.frm := ⟨_, rfl⟩
          rw [← hm] at hsl hPl
          have hm0 : 0 < m := by omega
          have hmb : m ≤ 3000 := by omega
          have hnews : ∀ j u, (Lib.byteCells P)[j]? = some u → wc.cell? ((⟨gs, osl, none⟩ : Addr).add j) = some u := by
            intro j u hu
            have hj : j < P.length := by
              have := (List.getElem?_eq_some_iff.1 hu).1
              simpa [Lib.byteCells] using this
            have e : ((⟨gs, osl, none⟩ : Addr).add j) = ⟨gs, osl + j, none⟩ := by unfold Addr.add; split <;> simp_all
            rw [e, hcs j hj, ← hu]
            simp [Lib.byteCells, hj]
          have hone : ∀ u ∈ Lib.byteCells P, u.oneCell' = true := by
            intro u hu
            simp only [Lib.byteCells, List.mem_map] at hu
            obtain ⟨y, _, rfl⟩ := hu; rfl
          have hbl : (Lib.byteCells P).length = m * 1 := by simp [Lib.byteCells, hPl]
          have q1 : decide ((t.frm : Int) < 0) = false := by rw [decide_eq_false_iff_not]; omega
          have q2 : decide (b.length < t.to_) = false := by rw [decide_eq_false_iff_not]; omega
          have q3 : decide (t.to_ ≤ t.frm) = false := by rw [decide_eq_false_iff_not]; omega
          have HPL := Lib.hid hPl; have HN := Lib.hid hnews; have HO := Lib.hid hone; have HBL := Lib.hid hbl
          clear hne hP hm hPl hnews hone hbl hcs
          go_wp2_with fail
          go_quiet (fail)
          go_wp2_with fail
          go_upto_region 17 with fail
          go_cut [8] (fun v wx => wx.ownsRow w1.heap.size 5 1 v (Y.length + m) (Lib.byteCells Y ++ Lib.byteCells P) ∧ Below w1.heap.size w1 wx)
          case first =>
            go_region_law (first | (refine step_append_lies _ ?_ (.tmp 93) (.tmp 105) 22 ?_ w1.heap.size 5 i0 (.int .u8 0) 1 1 Tryd.underlying22 hi hz0 hz1 hz2 ?_ ?_ (.slice ax Y.length cx) Y.length (Lib.byteCells Y) ?_ ?_ ⟨gs, osl, none⟩ m (c1 - t.frm) (Lib.byteCells P) ?_ ?_ ?_ ?_ ?_ ?_ ?_ ?_ wc.heap.size ?_ ?_; (· rfl); (· rfl); (· rfl); (· decide); (· rfl); (· exact hownX); (· rfl); (· exact HBL.out); (· exact HN.out); (· exact HO.out); (· exact hm0); (· unfold maxLen; omega); (· omega); (· exact hbs2); (· simp); intro g cap w' h1 h2 h3 h4))
            all_goals
              go_wp2_with fail
              go_meet
              exact ⟨by assumption, (below_more BX.out _).grown h2 hbs2 (fun k hk => (hownX.lt k hk).1)⟩
          case rest =>
            obtain ⟨hownP, hbP⟩ := hcut
            have BP := Lib.hid hbP
            have hcat : Lib.byteCells Y ++ Lib.byteCells P = Lib.byteCells (Y ++ P) := by unfold Lib.byteCells; rw [List.map_append]
            have hlenP : (Y ++ P).length = Y.length + m := by rw [List.length_append, HPL.out]
            rw [hcat] at hownP
            obtain ⟨ap, cp, rfl⟩ := own_shape' hownP
            have HLP := Lib.hid hlenP
            have BWP := Lib.hid (B1.out.trans (BP.out.mono B1.out.size))
            clear hbP hcat hlenP hownX
            by_cases hbig : 16384 < Y.length + m
            · go_wp2_with (go_at_call 11; refine (xwakes_any _ (HG.out.below BWP.out)).mono ?_; rintro e w9 ⟨rfl, hb9⟩)
              go_ret
              exact ⟨rfl, BWP.out.trans (hb9.mono BWP.out.size)⟩
            · go_wp2_with fail
              go_roundw
              case rel => exact ⟨i + 1, Y ++ P, by go_num, by rw [HLP.out]; omega, by rw [HLP.out]; exact hownP, Or.inl ⟨by omega, HT2.out⟩, BP.out⟩
              case measure => simp [intOf]; omega
        · have hie : i = ts.length := by omega
          have htot2 : TOT = Y := by
            rw [HTOT.out, HY.out, hie, List.drop_length]; rfl
          have HT2 := Lib.hid htot2
          have HIE := Lib.hid hie
          clear htot2 hie
          by_cases hbig : 16384 < Y.length
          · go_wp2_with (go_at_call 11; refine (xwakes_any _ (HG.out.below (B1.out.trans (BX.out.mono B1.out.size)))).mono ?_; rintro e w9 ⟨rfl, hb9⟩)
            go_ret
            exact ⟨rfl, (B1.out.trans (BX.out.mono B1.out.size)).trans (hb9.mono (B1.out.trans (BX.out.mono B1.out.size)).size)⟩
          · go_wp2_with fail
            go_roundw
            case rel => exact ⟨i + 1, Y, by go_num, by omega, hownX, Or.inr ⟨by rw [HIE.out], HT2.out⟩, BX.out⟩
            case measure => simp [intOf]; omega
    · -- the loop is left
      obtain rfl : X = TOT := htot.symm
      obtain ⟨m, hm1, hm2⟩ := Lx.blend_scan b (blk how) (blk_mem how) ts 0 0 0 HR.out
      rw [← HT.out] at hm1
      have hlm : m.length = ts.length := by
        have := congrArg List.length hm2
        simpa using this
      have BWr := Lib.hid (B1.out.trans (BR.out.mono B1.out.size))
      have hs2 := scan_any av cv X wr (holds_own hown).2 (HG.out.below BWr.out)
      rw [scanAll_small hX, hm1] at hs2
      have HS2 := Lib.hid hs2
      have T1r := Lib.hid (T1.out.below (Nat.le_refl _) BR.out)
      have HM2 := Lib.hid hm2; have HLM := Lib.hid hlm
      clear hs2 hm1 hm2 hlm htot hown hX
      go_wp2_with fail
      refine HS2.out.mono ?_
      rintro e w2 ⟨v2, rfl, hown2, hb2⟩
      rw [HLM.out] at hown2
      obtain ⟨a3, c3, rfl⟩ := own_shape' hown2
      rw [← HLM.out] at hown2
      have T3 := Lib.hid (toks_own hown2).2
      have T1s := Lib.hid (T1r.out.below (Nat.le_refl _) hb2)
      have BW2 := Lib.hid (BWr.out.trans (hb2.mono BWr.out.size))
      clear hown2 hb2
      have hbare1 := bare_any a1' ts.length c1' ts rfl (by omega) w2 T1s.out
      have BA1 := Lib.hid hbare1
      clear hbare1
      go_wp2_with fail
      refine BA1.out.mono ?_
      rintro e w3 ⟨a4, c4, rfl, ht4, hb3⟩
      have T4 := Lib.hid ht4
      have T3s := Lib.hid (T3.out.below (Nat.le_refl _) hb3)
      have BW3 := Lib.hid (BW2.out.trans (hb3.mono BW2.out.size))
      clear ht4 hb3
      have hbare2 := bare_any a3 ts.length c3 m HLM.out.symm (by rw [HLM.out]; omega) w3 T3s.out
      have BA2 := Lib.hid hbare2
      clear hbare2
      go_wp2_with fail
      refine BA2.out.mono ?_
      rintro e w4 ⟨a5, c5, rfl, ht5, hb4⟩
      have T4s := T4.out.below (Nat.le_refl _) hb4
      have ht5' : ToksAt w4 a5 (ts.map bareT) := by
        have e : m.map bareT = ts.map bareT := HM2.out
        rw [← e]; exact ht5
      have BW4 := Lib.hid (BW3.out.trans (hb4.mono BW3.out.size))
      have htk := tokens_any a4 a5 ts.length c4 c5 (ts.map bareT) (by simp) (by simp; omega) w4 T4s ht5'
      have TK := Lib.hid htk
      clear htk ht5 ht5' T4s hb4
      go_wp2_with fail
      refine TK.out.mono ?_
      rintro e w5 ⟨rfl, hb5⟩
      have BW5 := Lib.hid (BW4.out.trans (hb5.mono BW4.out.size))
      clear hb5
      go_wp2_with (go_at_call 11; refine (xwakes_any _ (HG.out.below BW5.out)).mono ?_; rintro e w9 ⟨rfl, hb9⟩)
      go_ret
      exact ⟨rfl, BW5.out.trans (hb9.mono BW5.out.size)⟩

theorem walk_lexBlanks {W : World} (x0 : Option Addr) (n0 c0 : Nat) (B0 : BytesAt W x0 n0 c0) (x1 : Option Addr) (n1 c1 : Nat) (B1 : BytesAt W x1 n1 c1) (hg : Good W) :
    Calls Tryd.prog 4 #[.slice x0 n0 c0, .slice x1 n1 c1] W fun e w' => e = .returned (.bool true) ∧ Below W.heap.size W w' := by
  by_cases h0 : 3000 < n0
  · exact blanks_big1 x0 x1 n0 c0 n1 c1 h0 W
  by_cases h1 : 40 < n1
  · exact blanks_big2 x0 x1 n0 c0 n1 c1 (by omega) h1 W
  obtain ⟨_, k0, z0, b, rfl, H0⟩ := B0
  obtain ⟨_, _, _, c, rfl, H1⟩ := B1
  cases hR : Lx.scan b 0 with
  | bad p => exact blanks_bad x0 x1 c0 c.length c1 b (by omega) (by omega) p hR W H0 hg
  | good ts => exact blanks_good x0 x1 c0 c1 b c (by omega) (by omega) k0 ts hR W H0 H1 hg
end Go.Proofs.YthiifacfkeibbaaDoor
