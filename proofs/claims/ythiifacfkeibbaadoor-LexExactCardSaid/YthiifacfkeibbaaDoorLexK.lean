/- Walks: two rows of tokens held against each other; tokens without their places. -/
import Derived.Test.YthiifacfkeibbaaDoorLexW
namespace Go.Proofs.YthiifacfkeibbaaDoor
open Go Go.RowKit
open Go.Proofs

theorem tok_neq (k f t n : Int) (s : ByteArray) (w : World) : (binOp .neq 32 (.agg #[.int .i64 k, .int .i64 f, .int .i64 t, .string s, .int .i64 n]) (.agg #[.int .i64 k, .int .i64 f, .int .i64 t, .string s, .int .i64 n])).run Tryd.prog w = .ok (.bool false) w := by
  simp [go_sem]

set_option maxHeartbeats 1000000 in
theorem tokens_none (a1 a2 : Option Addr) (c1 c2 : Nat) (w : World) :
    Calls Tryd.prog 10 #[.slice a1 0 c1, .slice a2 0 c2] w fun e w' => e = .returned (.bool true) ∧ w = w' := by
  go_enter Tryd.func10, Tryd.ntmps10
  go_wp2_with fail
  go_loop [5] (fun i => i = .int .i64 0) (fun i => 0)
  case atStart => rfl
  case round =>
    subst hrel
    go_wp2_with fail
    go_ret
    exact ⟨rfl, rfl⟩

set_option maxHeartbeats 1000000 in
theorem tokens_some (g1 g2 c1 c2 : Nat) (ts : List Lx.Tok) (hl : ts.length ≤ 100000) (w : World) (h1 : ∀ i (h : i < ts.length), TokAt w g1 i ts[i]) (h2 : ∀ i (h : i < ts.length), TokAt w g2 i ts[i]) :
    Calls Tryd.prog 10 #[.slice (some ⟨g1, 0, none⟩) ts.length c1, .slice (some ⟨g2, 0, none⟩) ts.length c2] w fun e w' => e = .returned (.bool true) ∧ Below w.heap.size w w' := by
  have hne := tok_neq
  have H1 := Lib.hid h1; have H2 := Lib.hid h2; clear h1 h2
  go_enter Tryd.func10, Tryd.ntmps10
  go_wp2_with fail
  go_loopw [5] (fun i wr => ∃ k m : Nat, k ≤ ts.length ∧ i = .int .i64 k ∧ wr = w.drewN m) (fun i _ => ts.length - (intOf i).toNat)
  case atStart => exact ⟨0, 0, Nat.zero_le _, rfl, rfl⟩
  case round =>
    obtain ⟨k, m, hk, rfl, rfl⟩ := hrel
    by_cases hlt : k < ts.length
    · obtain ⟨d0, d1, d2, d3, d4⟩ := H1.out k hlt
      obtain ⟨e0, e1, e2, e3, e4⟩ := H2.out k hlt
      generalize ts[k] = t at *
      go_wp2_with fail
      go_quiet (fail)
      go_wp2_with fail
      go_roundw
      case rel => exact ⟨k + 1, _, by omega, by go_num, rfl⟩
      case measure => simp [intOf]; omega
    · go_wp2_with fail
      go_ret
      exact ⟨rfl, below_drewN _ _ _⟩

/-- TWO ROWS OF THE SAME TOKENS ARE FOUND TO BE THE SAME. -/
theorem tokens_any (a1 a2 : Option Addr) (n c1 c2 : Nat) (ts : List Lx.Tok) (hn : n = ts.length) (hl : ts.length ≤ 100000) (w : World) (h1 : ToksAt w a1 ts) (h2 : ToksAt w a2 ts) :
    Calls Tryd.prog 10 #[.slice a1 n c1, .slice a2 n c2] w fun e w' => e = .returned (.bool true) ∧ Below w.heap.size w w' := by
  subst hn
  rcases h1 with rfl | ⟨g1, rfl, _, h1⟩
  · exact (tokens_none a1 a2 c1 c2 w).mono fun e w' h => ⟨h.1, by rw [← h.2]; exact Below.refl _ _⟩
  · rcases h2 with rfl | ⟨g2, rfl, _, h2⟩
    · exact (tokens_none _ a2 c1 c2 w).mono fun e w' h => ⟨h.1, by rw [← h.2]; exact Below.refl _ _⟩
    · exact tokens_some g1 g2 c1 c2 ts hl w h1 h2

def bareT (t : Lx.Tok) : Lx.Tok := { t with frm := 0, to_ := 0 }

theorem bare_none (a : Option Addr) (c : Nat) (w : World) :
    Calls Tryd.prog 12 #[.slice a 0 c] w fun e w' => e = .returned (.slice none 0 0) ∧ w = w' := by
  go_enter Tryd.func12, Tryd.ntmps12
  go_wp2_with fail
  go_loop [3, 4] (fun v i => v = .slice none 0 0 ∧ i = .int .i64 0) (fun _ i => 0)
  case atStart => exact ⟨rfl, rfl⟩
  case round =>
    obtain ⟨rfl, rfl⟩ := hrel
    go_wp2_with fail
    go_ret
    exact ⟨rfl, rfl⟩

set_option maxRecDepth 100000 in
set_option maxHeartbeats 2000000 in
theorem bare_some (g c : Nat) (ts : List Lx.Tok) (hl : ts.length ≤ 100000) (w : World) (hg : g < w.heap.size) (h1 : ∀ i (h : i < ts.length), TokAt w g i ts[i]) :
    Calls Tryd.prog 12 #[.slice (some ⟨g, 0, none⟩) ts.length c] w fun e w' => ∃ v, e = .returned v ∧ w'.ownsRow w.heap.size 32 5 v ts.length (tokCells (ts.map bareT)) ∧ Below w.heap.size w w' := by
  obtain ⟨i0, hi, hz0, hz1, hz2⟩ := info_parts info_tok
  have H1 := Lib.hid h1; clear h1
  go_enter Tryd.func12, Tryd.ntmps12
  go_wp2_with fail
  go_loopw [3, 4] (fun v i wr => ∃ k : Nat, k ≤ ts.length ∧ i = .int .i64 k ∧ wr.ownsRow w.heap.size 32 5 v k (tokCells ((ts.map bareT).take k)) ∧ Below w.heap.size w wr) (fun _ i _ => ts.length - (intOf i).toNat)
  case atStart => exact ⟨0, Nat.zero_le _, rfl, World.ownsRow_nil _ _ _ _, Below.refl _ _⟩
  case round =>
    obtain ⟨k, hk, rfl, hown, hb⟩ := hrel
    obtain ⟨va, vcap, rfl⟩ := own_shape' hown
    have hbs := hb.size
    by_cases hlt : k < ts.length
    · have hT := H1.out k hlt
      have hs : (ts.map bareT).take (k + 1) = (ts.map bareT).take k ++ [bareT ts[k]] := by rw [List.take_succ_eq_append_getElem (by simpa using hlt)]; simp
      have HS := Lib.hid hs; clear hs
      generalize ts[k] = t at *
      obtain ⟨d0, d1, d2, d3, d4⟩ := hT
      have q : ∀ o, wr.cell? ⟨g, o, none⟩ = w.cell? ⟨g, o, none⟩ := fun o => hb.cell (p := ⟨g, o, none⟩) hg
      rw [← q] at d0 d1 d2 d3 d4
      clear q
      go_wp2_with (at_builtin; refine wpList_append_own _ rfl _ _ 23 rfl w.heap.size 32 i0 (.agg #[.int .i64 0, .int .i64 0, .int .i64 0, .string ByteArray.empty, .int .i64 0]) 5 48 Tryd.underlying23 hi hz0 hz1 hz2 rfl (by decide) _ _ _ rfl ((hown.alloc _).alloc _) ⟨wr.heap.size + 1, 0, none⟩ 1 1 (tokRow (bareT t)) rfl rfl ?c1 ?c2 ?c3 ?c4 ?c5 ?_)
      case c1 => exact cells5 (wr.alloc _) _ (by simp) _ _ _ _ _ _
      case c2 => intro u hu; simp [tokRow] at hu; rcases hu with rfl | rfl | rfl | rfl | rfl <;> rfl
      case c3 => unfold maxLen; omega
      case c4 => omega
      case c5 => simp; omega
      intro v' w2 hown' hg2 _
      have hb2 : Below w.heap.size w w2 := ((hb.alloc hbs _).alloc (by simp; omega) _).grown hg2 (by simp; omega) (fun k hk => (hown.lt k hk).1)
      rw [← tokCells_snoc, ← HS.out] at hown'
      have HOWN := Lib.hid hown'; have HB2 := Lib.hid hb2
      clear hown' hg2 hb2
      go_wp2_with fail
      go_roundw
      case rel => exact ⟨k + 1, by omega, by go_num, HOWN.out, HB2.out⟩
      case measure => simp [intOf]; omega
    · obtain rfl : k = ts.length := by omega
      rw [List.take_of_length_le (by simp)] at hown
      go_wp2_with fail
      go_ret
      exact ⟨_, rfl, hown, hb⟩

theorem bare_any (a : Option Addr) (n c : Nat) (ts : List Lx.Tok) (hn : n = ts.length) (hl : ts.length ≤ 100000) (w : World) (h : ToksAt w a ts) :
    Calls Tryd.prog 12 #[.slice a n c] w fun e w' => ∃ a' c', e = .returned (.slice a' n c') ∧ ToksAt w' a' (ts.map bareT) ∧ Below w.heap.size w w' := by
  subst hn
  rcases h with rfl | ⟨g, rfl, hg, h⟩
  · exact (bare_none a c w).mono fun e w' h => ⟨none, 0, h.1, Or.inl rfl, by rw [← h.2]; exact Below.refl _ _⟩
  · refine (bare_some g c ts hl w hg h).mono ?_
    rintro e w' ⟨v, rfl, hown, hb⟩
    obtain ⟨a', c', rfl⟩ := own_shape' hown
    have e1 : ts.length = (ts.map bareT).length := by simp
    rw [e1] at hown
    exact ⟨a', c', rfl, (toks_own hown).2, hb⟩
theorem bare_hit (g n c : Nat) (ts : List Lx.Tok) (hn : n = ts.length) (hl : ts.length ≤ 100000) (h0 : 0 < ts.length) (w : World) (h : ToksAt w (some ⟨g, 0, none⟩) ts) :
    Calls Tryd.prog 12 #[.slice (some ⟨g, 0, none⟩) n c] w fun e w' => ∃ gb cb, e = .returned (.slice (some ⟨gb, 0, none⟩) n cb) ∧ gb < w'.heap.size ∧ (∀ i (h : i < ts.length), TokAt w' gb i (bareT ts[i])) ∧ Below w.heap.size w w' := by
  refine (bare_any _ n c ts hn hl w h).mono ?_
  rintro e w' ⟨a', c', rfl, ht, hb⟩
  rcases ht with h1 | ⟨gb, rfl, hg, hT⟩
  · rw [List.map_eq_nil_iff] at h1; rw [h1] at h0; simp at h0
  · refine ⟨gb, c', rfl, hg, fun i hi => ?_, hb⟩
    have := hT i (by simpa using hi)
    rw [List.getElem_map] at this; exact this
end Go.Proofs.YthiifacfkeibbaaDoor
