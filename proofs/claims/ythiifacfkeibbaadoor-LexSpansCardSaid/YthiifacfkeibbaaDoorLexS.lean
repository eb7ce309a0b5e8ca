/- The walk of the law on the tokens' places. -/
import Derived.Test.YthiifacfkeibbaaDoorBytes
import Derived.Deep.RegionHeld3
import Derived.Deep.DeepCutAuto
import Derived.Deep.CutRange
namespace Go.Proofs.YthiifacfkeibbaaDoor
open Go Go.RowKit
open Go.Proofs

theorem wpAnyH_weaken {P : Program} {md : Region.Mode} {ops : Array Oper} {Q : Exit → Act → World → Prop} {S S' : World → Prop} (hS : ∀ w, S' w → S w) : ∀ (fuel : Nat) (listed : Array Bool) (a : Act) (w : World), wpAnyH P md ops Q S' fuel listed a w → wpAnyH P md ops Q S fuel listed a w
  | 0, _, _, _, h => h
  | fuel + 1, _, _, _, h => ⟨h.1, fun i hi => wpOp_mono (fun a' w' h' => ⟨hS w' h'.1, wpAnyH_weaken hS fuel _ a' w' h'.2⟩) (h.2 i hi)⟩
theorem below_chain {w W w9 : World} (h : Below w.heap.size w W) (h9 : Below W.heap.size W w9) : Below w.heap.size w w9 := h.trans (h9.mono h.size)
set_option maxRecDepth 100000 in
set_option maxHeartbeats 1000000 in
theorem spans_big (a : Option Addr) (n cap : Nat) (h : 3000 < n) (w : World) :
    Calls Tryd.prog 5 #[.slice a n cap] w fun e w' => e = .returned (.bool true) ∧ Below w.heap.size w w' := by
  go_enter Tryd.func5, Tryd.ntmps5
  go_wp2_with fail
  go_ret
  exact ⟨rfl, Below.refl _ _⟩

set_option maxRecDepth 100000 in
set_option maxHeartbeats 1000000 in
theorem spans_bad (a : Option Addr) (cap : Nat) (l : List UInt8) (h : l.length ≤ 3000) (p : Nat) (hR : Lx.scan l 0 = .bad p) (w : World) (hh : Holds w a l) (hg : Good w) :
    Calls Tryd.prog 5 #[.slice a l.length cap] w fun e w' => e = .returned (.bool true) ∧ Below w.heap.size w w' := by
  have hs := scan_any a cap l w hh hg
  rw [scanAll_small (by omega), hR] at hs
  have HS := Lib.hid hs; have HG := Lib.hid hg
  clear hs hR hg
  go_enter Tryd.func5, Tryd.ntmps5
  go_wp2_with fail
  refine HS.out.mono ?_
  rintro e w1 ⟨rfl, hb1⟩
  have HG1 := Lib.hid (HG.out.below hb1)
  go_wp2_with (go_at_call 11; refine (xwakes_any _ HG1.out).mono ?_; rintro e w2 ⟨rfl, hb2⟩)
  go_ret
  exact ⟨rfl, hb1.trans (hb2.mono hb1.size)⟩

set_option maxRecDepth 100000 in
set_option maxHeartbeats 4000000 in
theorem spans_good (a : Option Addr) (cap : Nat) (l : List UInt8) (h : l.length ≤ 3000) (hcap : l.length ≤ cap) (ts : List Lx.Tok) (hR : Lx.scan l 0 = .good ts) (w : World) (hh : Holds w a l) (hg : Good w) :
    Calls Tryd.prog 5 #[.slice a l.length cap] w fun e w' => e = .returned (.bool true) ∧ Below w.heap.size w w' := by
  have hs := scan_any a cap l w hh hg
  rw [scanAll_small (by omega), hR] at hs
  have htl := Lx.scan_len (l.length + 1) l (by omega) 0 ts hR
  have HS := Lib.hid hs; have HG := Lib.hid hg; have HR := Lib.hid hR; have HH := Lib.hid hh
  clear hs hg hR hh
  go_enter Tryd.func5, Tryd.ntmps5
  go_wp2_with fail
  refine HS.out.mono ?_
  rintro e w1 ⟨v, rfl, hown, hb1⟩
  obtain ⟨va, vc, rfl⟩ := own_shape' hown
  have HT := Lib.hid (toks_own hown).2
  have HB1 := Lib.hid hb1
  clear hown hb1 HS
  go_wp2_with fail
  go_loopw [6, 7] (fun at_ i wr => ∃ o k : Nat, at_ = .int .i64 o ∧ i = .int .i64 k ∧ k ≤ ts.length ∧ o ≤ l.length ∧ Lx.scan (l.drop o) o = .good (ts.drop k) ∧ Below w1.heap.size w1 wr) (fun _ i _ => ts.length + 1 - (intOf i).toNat)
  case atStart => exact ⟨0, 0, rfl, rfl, Nat.zero_le _, Nat.zero_le _, HR.out, Below.refl _ _⟩
  case round =>
    obtain ⟨o, k, rfl, rfl, hk, ho, hsc, hb⟩ := hrel
    have HSC := Lib.hid hsc
    have HBW := Lib.hid (HB1.out.trans (hb.mono HB1.out.size))
    have HHr := Lib.hid (HH.out.below (Nat.le_refl _) HBW.out)
    have HGr := Lib.hid (HG.out.below HBW.out)
    have HTr := Lib.hid (HT.out.below (Nat.le_refl _) hb)
    have HBr := Lib.hid hb
    clear hsc hb
    by_cases hlt : k < ts.length
    · obtain ⟨t, rest, hd⟩ : ∃ t rest, ts.drop k = t :: rest := ⟨ts[k], ts.drop (k + 1), List.drop_eq_getElem_cons hlt⟩
      have hsc := HSC.out
      rw [hd] at hsc
      obtain ⟨kk, nn, e1, e2, hn1, hkn, hkx, hz, _, hone, hrest⟩ := Lx.span_step hsc
      clear hkx
      rw [List.length_drop] at hkn
      rw [List.drop_drop] at hone hrest
      rw [← Nat.add_assoc] at hrest
      have hrest2 : ts.drop (k + 1) = rest := by rw [← List.drop_drop, hd]; rfl
      rw [← hrest2] at hrest
      have htk : ts[k] = t := by
        have := List.drop_eq_getElem_cons hlt
        rw [hd] at this; injection this with h1 _; exact h1.symm
      rcases HTr.out with h0 | ⟨g, rfl, hg2, hT⟩
      · rw [h0] at hlt; simp at hlt
      have hTk := hT k hlt
      rw [htk] at hTk
      obtain ⟨d0, d1, d2, d3, d4⟩ := hTk
      obtain ⟨a1, hsl1, hh1⟩ := sub_bytes cap hcap HHr.out o (o + kk) (by omega) (by omega)
      obtain ⟨a2, hsl2, hh2⟩ := sub_bytes cap hcap HHr.out (o + kk) (o + kk + nn) (by omega) (by omega)
      rw [show o + kk - o = kk from by omega] at hh1 hsl1
      rw [show o + kk + nn - (o + kk) = nn from by omega] at hh2 hsl2
      have hs1 := scan_any a1 (cap - o) ((l.drop o).take kk) wr hh1 HGr.out
      rw [scanAll_small (by simp; omega), hz, show ((l.drop o).take kk).length = kk from by simp; omega] at hs1
      have hs2 : ∀ w', Below wr.heap.size wr w' → Calls Tryd.prog 8 #[.slice a2 nn (cap - (o + kk))] w' (ScanPost (.good [⟨t.kind, 0, nn, t.s, t.n⟩]) w') := fun w' hb => by
        have := scan_any a2 (cap - (o + kk)) ((l.drop (o + kk)).take nn) w' (hh2.below (Nat.le_refl _) hb) (HGr.out.below hb)
        rw [scanAll_small (by simp; omega), hone, show ((l.drop (o + kk)).take nn).length = nn from by simp; omega] at this
        exact this
      have hTT : ToksAt wr (some ⟨g, 0, none⟩) ts := Or.inr ⟨g, rfl, hg2, hT⟩
      have HS1 := Lib.hid hs1; have HS2 := Lib.hid hs2; have HREST := Lib.hid hrest; have HTT := Lib.hid hTT; have HTK := Lib.hid htk
      clear hs1 hs2 hrest hrest2 hone hz hsc hd hh1 hh2 HSC hT hTT htk
      rw [e1] at d1
      rw [e2] at d2
      clear e1 e2
      simp only [Int.natCast_add] at hsl1 hsl2 d1 d2
      go_wp2_with fail
      refine HS1.out.mono ?_
      rintro e w2 ⟨v2, rfl, hown2, hb2⟩
      obtain ⟨a2x, c2, rfl⟩ := own_shape' hown2
      rw [List.length_nil]
      have d2' : w2.cell? ⟨g, k * 5 + 2, none⟩ = some (.int .i64 ((o : Int) + (kk : Int) + (nn : Int))) := by rw [hb2.cell (p := ⟨g, k * 5 + 2, none⟩) hg2]; exact d2
      have HB2 := Lib.hid hb2
      clear hown2 hb2 d0 d1 d2 d3 d4
      go_wp2_with fail
      refine (HS2.out _ HB2.out).mono ?_
      rintro e w3 ⟨v3, rfl, hown3, hb3⟩
      obtain ⟨a3, c3, rfl⟩ := own_shape' hown3
      have ht3 := (toks_own hown3).2
      rcases ht3 with h0 | ⟨g3, rfl, hg3, hT3⟩
      · cases h0
      have hB3 := HB2.out.trans (hb3.mono HB2.out.size)
      have hT3a := hT3 0 (by simp)
      have hTa := HTT.out.below (Nat.le_refl _) hB3
      have hTb := ToksAt.below (ts := [⟨t.kind, 0, nn, t.s, t.n⟩]) (Or.inr ⟨g3, rfl, hg3, hT3⟩) (Nat.le_refl _) (Below.refl _ _)
      obtain ⟨m0, m1, m2, m3, m4⟩ := hT3a
      simp only [List.getElem_cons_zero, Nat.zero_mul, Nat.zero_add] at m0 m1 m2 m3 m4
      have HB3 := Lib.hid hB3; have HTA := Lib.hid hTa; have HTB := Lib.hid hTb
      clear hown3 hb3 hT3 hB3 hTa hTb d2'
      rw [show ([⟨t.kind, 0, nn, t.s, t.n⟩] : List Lx.Tok).length = 1 from rfl]
      have hB1 : ∀ w', Below w3.heap.size w3 w' → Calls Tryd.prog 12 #[.slice (some ⟨g3, 0, none⟩) 1 c3] w' fun e wx => ∃ gb cb, e = .returned (.slice (some ⟨gb, 0, none⟩) 1 cb) ∧ gb < wx.heap.size ∧ TokAt wx gb 0 ⟨t.kind, 0, 0, t.s, t.n⟩ ∧ Below w'.heap.size w' wx := fun w' hb => by
        refine (bare_hit g3 1 c3 _ rfl (by simp) (by simp) w' (HTB.out.below (Nat.le_refl _) hb)).mono ?_
        rintro e wx ⟨gb, cb, rfl, hgb, hT, hbx⟩
        exact ⟨gb, cb, rfl, hgb, hT 0 (by simp), hbx⟩
      have hB2 : ∀ w', Below w3.heap.size w3 w' → Calls Tryd.prog 12 #[.slice (some ⟨g, 0, none⟩) ts.length vc] w' fun e wx => ∃ gb cb, e = .returned (.slice (some ⟨gb, 0, none⟩) ts.length cb) ∧ gb < wx.heap.size ∧ TokAt wx gb k ⟨t.kind, 0, 0, t.s, t.n⟩ ∧ Below w'.heap.size w' wx := fun w' hb => by
        refine (bare_hit g ts.length vc ts rfl (by omega) (by omega) w' (HTA.out.below (Nat.le_refl _) hb)).mono ?_
        rintro e wx ⟨gb, cb, rfl, hgb, hT, hbx⟩
        have := hT k hlt
        rw [HTK.out] at this
        exact ⟨gb, cb, rfl, hgb, this, hbx⟩
      have hne := tok_neq
      have hwr : IntKind.i64.wrap ((o : Int) + (kk : Int) + (nn : Int) - ((o : Int) + (kk : Int))) = (nn : Int) := by rw [IntWalk.i64_in _ (by omega)]; omega
      have hnn : ((nn : Int) != (nn : Int)) = false := by simp
      have HB1x := Lib.hid hB1; have HB2x := Lib.hid hB2
      clear hB1 hB2 m0 m1 m3 m4
      go_wp2_with fail
      go_cut [126] (fun v wx => v = .bool false ∧ Below w3.heap.size w3 wx)
      case first =>
        have hg32 : ∀ w', Below w3.heap.size w3 w' → w'.cell? ⟨g3, 2, none⟩ = some (.int .i64 (nn : Int)) := fun w' hb => by rw [hb.cell (p := ⟨g3, 2, none⟩) hg3]; exact m2
        have HG32 := Lib.hid hg32
        clear hg32 m2
        refine wp_region_held_drew (S := fun w' => Below w3.heap.size w3 w') (by kernel_rfl) (Below.refl _ _).drew (fun hHeld => ?_)
        refine wpAnyH_take (i := 0) (oi := ⟨some 98, _, _, _, _, _⟩) (v := ?_) rfl (by kernel_rfl) (by kernel_rfl) (by kernel_rfl) (fun _ _ _ h => h) (Or.inl ⟨by rfl, ?_⟩) (by assumption) ?_
        rotate_left
        · (intro w hSw; (try dsimp only at hSw); go_simp; (try with_reducible rfl))
        try simp only [Act.put, List.setIfInBounds_toArray, List.set_cons_zero, List.set_cons_succ]
        refine wpAnyH_take (i := 1) (oi := ⟨some 99, _, _, _, _, _⟩) (v := ?_) rfl (by kernel_rfl) (by kernel_rfl) (by kernel_rfl) (fun _ _ _ h => h) (Or.inl ⟨by rfl, ?_⟩) (by assumption) ?_
        rotate_left
        · (intro w hSw; (try dsimp only at hSw); go_simp; (try with_reducible rfl))
        try simp only [Act.put, List.setIfInBounds_toArray, List.set_cons_zero, List.set_cons_succ]
        refine wpAnyH_take (i := 2) (oi := ⟨some 100, _, _, _, _, _⟩) (v := ?_) rfl (by kernel_rfl) (by kernel_rfl) (by kernel_rfl) (fun _ _ _ h => h) (Or.inl ⟨by rfl, ?_⟩) (by assumption) ?_
        rotate_left
        · (intro w hSw; (try dsimp only at hSw); go_simp; (try with_reducible rfl))
        try simp only [Act.put, List.setIfInBounds_toArray, List.set_cons_zero, List.set_cons_succ]
        refine wpAnyH_take (i := 3) (oi := ⟨some 101, _, _, _, _, _⟩) (v := ?_) rfl (by kernel_rfl) (by kernel_rfl) (by kernel_rfl) (fun _ _ _ h => h) (Or.inl ⟨by rfl, ?_⟩) (by assumption) ?_
        rotate_left
        · (intro w hSw; (try dsimp only at hSw); go_simp; (try with_reducible rfl))
        try simp only [Act.put, List.setIfInBounds_toArray, List.set_cons_zero, List.set_cons_succ]
        refine wpAnyH_take (i := 4) (oi := ⟨some 102, _, _, _, _, _⟩) (v := ?_) rfl (by kernel_rfl) (by kernel_rfl) (by kernel_rfl) (fun _ _ _ h => h) (Or.inl ⟨by rfl, ?_⟩) (by assumption) ?_
        rotate_left
        · (intro w hSw; (try dsimp only at hSw); go_simp; (try with_reducible rfl))
        try simp only [Act.put, List.setIfInBounds_toArray, List.set_cons_zero, List.set_cons_succ]
        refine wpAnyH_take (i := 5) (oi := ⟨some 103, _, _, _, _, _⟩) (v := ?_) rfl (by kernel_rfl) (by kernel_rfl) (by kernel_rfl) (fun _ _ _ h => h) (Or.inl ⟨by rfl, ?_⟩) (by assumption) ?_
        rotate_left
        · (intro w hSw; (try dsimp only at hSw); go_simp; (try with_reducible rfl))
        try simp only [Act.put, List.setIfInBounds_toArray, List.set_cons_zero, List.set_cons_succ]
        refine wpAnyH_take (i := 6) (oi := ⟨some 104, _, _, _, _, _⟩) (v := ?_) rfl (by kernel_rfl) (by kernel_rfl) (by kernel_rfl) (fun _ _ _ h => h) (Or.inl ⟨by rfl, ?_⟩) (by assumption) ?_
        rotate_left
        · (intro w hSw; (try dsimp only at hSw); go_simp; (try with_reducible rfl))
        try simp only [Act.put, List.setIfInBounds_toArray, List.set_cons_zero, List.set_cons_succ]
        refine wpAnyH_take (i := 7) (oi := ⟨some 105, _, _, _, _, _⟩) (v := ?_) rfl (by kernel_rfl) (by kernel_rfl) (by kernel_rfl) (fun _ _ _ h => h) (Or.inl ⟨by rfl, ?_⟩) (by assumption) ?_
        rotate_left
        · (intro w hSw; (try dsimp only at hSw); go_simp; (try with_reducible rfl))
        try simp only [Act.put, List.setIfInBounds_toArray, List.set_cons_zero, List.set_cons_succ]
        refine wpAnyH_take (i := 8) (oi := ⟨some 106, _, _, _, _, _⟩) (v := ?_) rfl (by kernel_rfl) (by kernel_rfl) (by kernel_rfl) (fun _ _ _ h => h) (Or.inl ⟨by rfl, ?_⟩) (by assumption) ?_
        rotate_left
        · (intro w hSw; (try dsimp only at hSw); go_simp; (try with_reducible rfl))
        try simp only [Act.put, List.setIfInBounds_toArray, List.set_cons_zero, List.set_cons_succ]
        refine wpAnyH_take (i := 12) (oi := ⟨some 110, _, _, _, _, _⟩) (v := ?_) rfl (by kernel_rfl) (by kernel_rfl) (by kernel_rfl) (fun _ _ _ h => h) (Or.inl ⟨by rfl, ?_⟩) (by assumption) ?_
        rotate_left
        · (intro w hSw; (try dsimp only at hSw); go_simp; (try with_reducible rfl))
        try simp only [Act.put, List.setIfInBounds_toArray, List.set_cons_zero, List.set_cons_succ]
        refine wpAnyH_take (i := 14) (oi := ⟨some 112, _, _, _, _, _⟩) (v := ?_) rfl (by kernel_rfl) (by kernel_rfl) (by kernel_rfl) (fun _ _ _ h => h) (Or.inl ⟨by rfl, ?_⟩) (by assumption) ?_
        rotate_left
        · (intro w hSw; (try dsimp only at hSw); go_simp; (try with_reducible rfl))
        try simp only [Act.put, List.setIfInBounds_toArray, List.set_cons_zero, List.set_cons_succ]
        refine wpAnyH_ready (rs := [9]) (by kernel_rfl) (by simp) ?_
        refine AllReadyH.cons (o := ⟨some 107, _, _, _, _, _⟩) rfl (fun K hK => ?_) AllReadyH.nil
        go_simp
        refine (HB1x.out _ hHeld).mono ?_
        rintro e wx ⟨gb, cb, rfl, hgb, ⟨b0, b1, b2, b3, b4⟩, hbx⟩
        simp only [Nat.zero_mul, Nat.zero_add] at b0 b1 b2 b3 b4
        have hBx := below_chain hHeld hbx
        dsimp only
        refine hK.out _ _ hBx (fun hHeld2 => ?_)
        clear hK K
        try simp only [Act.put, List.setIfInBounds_toArray, List.set_cons_zero, List.set_cons_succ]
        refine wpAnyH_weaken (S' := fun w' => w'.cell? ⟨gb, 0, none⟩ = some (.int .i64 (t.kind : Int)) ∧ w'.cell? ⟨gb, 1, none⟩ = some (.int .i64 0) ∧ w'.cell? ⟨gb, 2, none⟩ = some (.int .i64 0) ∧ w'.cell? ⟨gb, 3, none⟩ = some (.string ⟨t.s.toArray⟩) ∧ w'.cell? ⟨gb, 4, none⟩ = some (.int .i64 t.n) ∧ w'.cell? ⟨g3, 2, none⟩ = some (.int .i64 (nn : Int)) ∧ Below w3.heap.size w3 w') (fun w' h => h.2.2.2.2.2.2) _ _ _ _ ?_
        have hS1 : (fun w' => w'.cell? ⟨gb, 0, none⟩ = some (.int .i64 (t.kind : Int)) ∧ w'.cell? ⟨gb, 1, none⟩ = some (.int .i64 0) ∧ w'.cell? ⟨gb, 2, none⟩ = some (.int .i64 0) ∧ w'.cell? ⟨gb, 3, none⟩ = some (.string ⟨t.s.toArray⟩) ∧ w'.cell? ⟨gb, 4, none⟩ = some (.int .i64 t.n) ∧ w'.cell? ⟨g3, 2, none⟩ = some (.int .i64 (nn : Int)) ∧ Below w3.heap.size w3 w' : World → Prop) wx := ⟨b0, b1, b2, b3, b4, HG32.out _ hBx, hBx⟩
        refine wpAnyH_take (i := 10) (oi := ⟨some 108, _, _, _, _, _⟩) (v := ?_) rfl (by kernel_rfl) (by kernel_rfl) (by kernel_rfl) (fun _ _ _ h => h) (Or.inl ⟨by rfl, ?_⟩) (by assumption) ?_
        rotate_left
        · (intro w hSw; (try dsimp only at hSw); go_simp; (try with_reducible rfl))
        try simp only [Act.put, List.setIfInBounds_toArray, List.set_cons_zero, List.set_cons_succ]
        refine wpAnyH_take (i := 11) (oi := ⟨some 109, _, _, _, _, _⟩) (v := ?_) rfl (by kernel_rfl) (by kernel_rfl) (by kernel_rfl) (fun _ _ _ h => h) (Or.inl ⟨by rfl, ?_⟩) (by assumption) ?_
        rotate_left
        · (intro w hSw; (try dsimp only at hSw); go_simp; (try with_reducible rfl))
        try simp only [Act.put, List.setIfInBounds_toArray, List.set_cons_zero, List.set_cons_succ]
        refine wpAnyH_ready (rs := [13]) (by kernel_rfl) (by simp) ?_
        refine AllReadyH.cons (o := ⟨some 111, _, _, _, _, _⟩) rfl (fun K hK => ?_) AllReadyH.nil
        go_simp
        refine (HB2x.out _ hBx).mono ?_
        rintro e wy ⟨gy, cy, rfl, hgy, ⟨y0, y1, y2, y3, y4⟩, hby⟩
        have hBy := below_chain hBx hby
        have q : ∀ o, wy.cell? ⟨gb, o, none⟩ = wx.cell? ⟨gb, o, none⟩ := fun o => hby.cell (p := ⟨gb, o, none⟩) hgb
        dsimp only
        refine hK.out _ _ ⟨(q 0).trans b0, (q 1).trans b1, (q 2).trans b2, (q 3).trans b3, (q 4).trans b4, HG32.out _ hBy, hBy⟩ (fun hHeld3 => ?_)
        clear hK K q
        try simp only [Act.put, List.setIfInBounds_toArray, List.set_cons_zero, List.set_cons_succ]
        refine wpAnyH_weaken (S' := fun w' => w'.cell? ⟨gy, k * 5, none⟩ = some (.int .i64 (t.kind : Int)) ∧ w'.cell? ⟨gy, k * 5 + 1, none⟩ = some (.int .i64 0) ∧ w'.cell? ⟨gy, k * 5 + 2, none⟩ = some (.int .i64 0) ∧ w'.cell? ⟨gy, k * 5 + 3, none⟩ = some (.string ⟨t.s.toArray⟩) ∧ w'.cell? ⟨gy, k * 5 + 4, none⟩ = some (.int .i64 t.n) ∧ w'.cell? ⟨gb, 0, none⟩ = some (.int .i64 (t.kind : Int)) ∧ w'.cell? ⟨gb, 1, none⟩ = some (.int .i64 0) ∧ w'.cell? ⟨gb, 2, none⟩ = some (.int .i64 0) ∧ w'.cell? ⟨gb, 3, none⟩ = some (.string ⟨t.s.toArray⟩) ∧ w'.cell? ⟨gb, 4, none⟩ = some (.int .i64 t.n) ∧ w'.cell? ⟨g3, 2, none⟩ = some (.int .i64 (nn : Int)) ∧ Below w3.heap.size w3 w') (fun w' h => h.2.2.2.2.2) _ _ _ _ ?_
        have hS2 : (fun w' => w'.cell? ⟨gy, k * 5, none⟩ = some (.int .i64 (t.kind : Int)) ∧ w'.cell? ⟨gy, k * 5 + 1, none⟩ = some (.int .i64 0) ∧ w'.cell? ⟨gy, k * 5 + 2, none⟩ = some (.int .i64 0) ∧ w'.cell? ⟨gy, k * 5 + 3, none⟩ = some (.string ⟨t.s.toArray⟩) ∧ w'.cell? ⟨gy, k * 5 + 4, none⟩ = some (.int .i64 t.n) ∧ w'.cell? ⟨gb, 0, none⟩ = some (.int .i64 (t.kind : Int)) ∧ w'.cell? ⟨gb, 1, none⟩ = some (.int .i64 0) ∧ w'.cell? ⟨gb, 2, none⟩ = some (.int .i64 0) ∧ w'.cell? ⟨gb, 3, none⟩ = some (.string ⟨t.s.toArray⟩) ∧ w'.cell? ⟨gb, 4, none⟩ = some (.int .i64 t.n) ∧ w'.cell? ⟨g3, 2, none⟩ = some (.int .i64 (nn : Int)) ∧ Below w3.heap.size w3 w' : World → Prop) wy := ⟨y0, y1, y2, y3, y4, hHeld3⟩
        refine wpAnyH_take (i := 15) (oi := ⟨some 113, _, _, _, _, _⟩) (v := ?_) rfl (by kernel_rfl) (by kernel_rfl) (by kernel_rfl) (fun _ _ _ h => h) (Or.inl ⟨by rfl, ?_⟩) (by assumption) ?_
        rotate_left
        · (intro w hSw; (try dsimp only at hSw); go_simp; (try with_reducible rfl))
        try simp only [Act.put, List.setIfInBounds_toArray, List.set_cons_zero, List.set_cons_succ]
        refine wpAnyH_take (i := 16) (oi := ⟨some 114, _, _, _, _, _⟩) (v := ?_) rfl (by kernel_rfl) (by kernel_rfl) (by kernel_rfl) (fun _ _ _ h => h) (Or.inl ⟨by rfl, ?_⟩) (by assumption) ?_
        rotate_left
        · (intro w hSw; (try dsimp only at hSw); go_simp; (try with_reducible rfl))
        try simp only [Act.put, List.setIfInBounds_toArray, List.set_cons_zero, List.set_cons_succ]
        refine wpAnyH_take (i := 17) (oi := ⟨some 115, _, _, _, _, _⟩) (v := ?_) rfl (by kernel_rfl) (by kernel_rfl) (by kernel_rfl) (fun _ _ _ h => h) (Or.inl ⟨by rfl, ?_⟩) (by assumption) ?_
        rotate_left
        · (intro w hSw; (try dsimp only at hSw); go_simp; (try with_reducible rfl))
        try simp only [Act.put, List.setIfInBounds_toArray, List.set_cons_zero, List.set_cons_succ]
        refine wpAnyH_take (i := 18) (oi := ⟨some 116, _, _, _, _, _⟩) (v := ?_) rfl (by kernel_rfl) (by kernel_rfl) (by kernel_rfl) (fun _ _ _ h => h) (Or.inl ⟨by rfl, ?_⟩) (by assumption) ?_
        rotate_left
        · (intro w hSw; (try dsimp only at hSw); go_simp; (try with_reducible rfl))
        try simp only [Act.put, List.setIfInBounds_toArray, List.set_cons_zero, List.set_cons_succ]
        refine wpAnyH_take (i := 19) (oi := ⟨some 117, _, _, _, _, _⟩) (v := ?_) rfl (by kernel_rfl) (by kernel_rfl) (by kernel_rfl) (fun _ _ _ h => h) (Or.inl ⟨by rfl, ?_⟩) (by assumption) ?_
        rotate_left
        · (intro w hSw; (try dsimp only at hSw); go_simp; (try with_reducible rfl))
        try simp only [Act.put, List.setIfInBounds_toArray, List.set_cons_zero, List.set_cons_succ]
        refine wpAnyH_take (i := 20) (oi := ⟨some 118, _, _, _, _, _⟩) (v := ?_) rfl (by kernel_rfl) (by kernel_rfl) (by kernel_rfl) (fun _ _ _ h => h) (Or.inl ⟨by rfl, ?_⟩) (by assumption) ?_
        rotate_left
        · (intro w hSw; (try dsimp only at hSw); go_simp; (try with_reducible rfl))
        try simp only [Act.put, List.setIfInBounds_toArray, List.set_cons_zero, List.set_cons_succ]
        refine wpAnyH_take (i := 21) (oi := ⟨some 119, _, _, _, _, _⟩) (v := ?_) rfl (by kernel_rfl) (by kernel_rfl) (by kernel_rfl) (fun _ _ _ h => h) (Or.inl ⟨by rfl, ?_⟩) (by assumption) ?_
        rotate_left
        · (intro w hSw; (try dsimp only at hSw); go_simp; (try with_reducible rfl))
        try simp only [Act.put, List.setIfInBounds_toArray, List.set_cons_zero, List.set_cons_succ]
        refine wpAnyH_take (i := 22) (oi := ⟨some 120, _, _, _, _, _⟩) (v := ?_) rfl (by kernel_rfl) (by kernel_rfl) (by kernel_rfl) (fun _ _ _ h => h) (Or.inl ⟨by rfl, ?_⟩) (by assumption) ?_
        rotate_left
        · (intro w hSw; (try dsimp only at hSw); go_simp; (try with_reducible rfl))
        try simp only [Act.put, List.setIfInBounds_toArray, List.set_cons_zero, List.set_cons_succ]
        refine wpAnyH_take (i := 23) (oi := ⟨some 121, _, _, _, _, _⟩) (v := ?_) rfl (by kernel_rfl) (by kernel_rfl) (by kernel_rfl) (fun _ _ _ h => h) (Or.inl ⟨by rfl, ?_⟩) (by assumption) ?_
        rotate_left
        · (intro w hSw; (try dsimp only at hSw); go_simp; (try with_reducible rfl))
        try simp only [Act.put, List.setIfInBounds_toArray, List.set_cons_zero, List.set_cons_succ]
        refine wpAnyH_take (i := 24) (oi := ⟨some 122, _, _, _, _, _⟩) (v := ?_) rfl (by kernel_rfl) (by kernel_rfl) (by kernel_rfl) (fun _ _ _ h => h) (Or.inl ⟨by rfl, ?_⟩) (by assumption) ?_
        rotate_left
        · (intro w hSw; (try dsimp only at hSw); go_simp; (try with_reducible rfl))
        try simp only [Act.put, List.setIfInBounds_toArray, List.set_cons_zero, List.set_cons_succ]
        refine wpAnyH_take (i := 25) (oi := ⟨some 123, _, _, _, _, _⟩) (v := ?_) rfl (by kernel_rfl) (by kernel_rfl) (by kernel_rfl) (fun _ _ _ h => h) (Or.inl ⟨by rfl, ?_⟩) (by assumption) ?_
        rotate_left
        · (intro w hSw; (try dsimp only at hSw); go_simp; (try with_reducible rfl))
        try simp only [Act.put, List.setIfInBounds_toArray, List.set_cons_zero, List.set_cons_succ]
        refine wpAnyH_take (i := 26) (oi := ⟨some 124, _, _, _, _, _⟩) (v := ?_) rfl (by kernel_rfl) (by kernel_rfl) (by kernel_rfl) (fun _ _ _ h => h) (Or.inl ⟨by rfl, ?_⟩) (by assumption) ?_
        rotate_left
        · (intro w hSw; (try dsimp only at hSw); go_simp; (try with_reducible rfl))
        try simp only [Act.put, List.setIfInBounds_toArray, List.set_cons_zero, List.set_cons_succ]
        refine wpAnyH_take (i := 27) (oi := ⟨some 125, _, _, _, _, _⟩) (v := ?_) rfl (by kernel_rfl) (by kernel_rfl) (by kernel_rfl) (fun _ _ _ h => h) (Or.inl ⟨by rfl, ?_⟩) (by assumption) ?_
        rotate_left
        · (intro w hSw; (try dsimp only at hSw); go_simp; (try with_reducible rfl))
        try simp only [Act.put, List.setIfInBounds_toArray, List.set_cons_zero, List.set_cons_succ]
        refine wpAnyH_take (i := 28) (oi := ⟨some 126, _, _, _, _, _⟩) (v := ?_) rfl (by kernel_rfl) (by kernel_rfl) (by kernel_rfl) (fun _ _ _ h => h) (Or.inl ⟨by rfl, ?_⟩) (by assumption) ?_
        rotate_left
        · (intro w hSw; (try dsimp only at hSw); go_simp; (try with_reducible rfl))
        try simp only [Act.put, List.setIfInBounds_toArray, List.set_cons_zero, List.set_cons_succ]
        refine wpAnyH_done (by kernel_rfl) ?_ _
        go_wp2_with fail
        go_meet
        exact ⟨rfl, hBy⟩
      case rest =>
        obtain ⟨rfl, hbc⟩ := hcut
        have HBC := Lib.hid (HBr.out.trans ((HB3.out.trans (hbc.mono HB3.out.size)).mono HBr.out.size))
        clear hbc
        go_wp2_with fail
        go_roundw
        case rel => first | exact ⟨o + kk + nn, k + 1, by go_num, by go_num, by omega, by omega, HREST.out, HBC.out⟩ | ((repeat apply Exists.intro); exact ⟨⟨o + kk + nn, k + 1, by go_num, by go_num, by omega, by omega, HREST.out, HBC.out⟩, rfl⟩)
        case measure => simp [intOf]; omega
    · have hk2 : ts.length = k := by omega
      subst hk2
      have hsc := HSC.out
      rw [List.drop_length] at hsc
      have hz := Lx.scan_last hsc
      obtain ⟨a', hsl, hh'⟩ := sub_bytes cap hcap HHr.out o l.length ho (Nat.le_refl _)
      have htk : (l.drop o).take (l.length - o) = l.drop o := List.take_of_length_le (by simp)
      rw [htk] at hh'
      have hs2 := scan_any a' (cap - o) (l.drop o) wr hh' HGr.out
      rw [scanAll_small (by simp; omega), hz, List.length_drop] at hs2
      have HS2 := Lib.hid hs2
      clear hsc hz hh' htk hs2 HSC hlt
      go_wp2_with fail
      refine HS2.out.mono ?_
      rintro e w2 ⟨v2, rfl, hown2, hb2⟩
      obtain ⟨a2, c2, rfl⟩ := own_shape' hown2
      have HB2 := Lib.hid (HBW.out.trans (hb2.mono HBW.out.size))
      have HG2 := Lib.hid (HG.out.below HB2.out)
      clear hown2 hb2
      rw [List.length_nil]
      go_wp2_with (go_at_call 11; refine (xwakes_any _ HG2.out).mono ?_; rintro e w3 ⟨rfl, hb3⟩)
      go_ret
      exact ⟨rfl, HB2.out.trans (hb3.mono HB2.out.size)⟩

theorem walk_lexSpans {W : World} (x0 : Option Addr) (n0 c0 : Nat) (B0 : BytesAt W x0 n0 c0) (hg : Good W) :
    Calls Tryd.prog 5 #[.slice x0 n0 c0] W fun e w' => e = .returned (.bool true) ∧ Below W.heap.size W w' := by
  by_cases h0 : 3000 < n0
  · exact spans_big x0 n0 c0 h0 W
  obtain ⟨_, k0, _, b, rfl, H0⟩ := B0
  cases hR : Lx.scan b 0 with
  | bad p => exact spans_bad x0 c0 b (by omega) p hR W H0 hg
  | good ts => exact spans_good x0 c0 b (by omega) k0 ts hR W H0 hg
end Go.Proofs.YthiifacfkeibbaaDoor
