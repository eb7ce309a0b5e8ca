/- Walks: rows of numbers (In, Ints); count and Heavy. -/
import Derived.Test.YtaaapdfdedknfaaTrB
namespace Go.Proofs.Ytaaapdfdedknfaa
open Go Go.RowKit
open Tp (T)

/-- A slice that begins at a holds these numbers. -/
def IntRow (w : World) (a : Option Addr) (L : List Int) : Prop := L = [] ∨ ∃ b o, a = some ⟨b, o, none⟩ ∧ b < w.heap.size ∧ ∀ i (h : i < L.length), w.cell? ⟨b, o + i, none⟩ = some (.int .i64 L[i])
theorem IntRow.of_own {w : World} {B n c : Nat} {e : TypeId} {a : Option Addr} {L : List Int} (h : w.ownsRow B e 1 (.slice a n c) L.length (L.map (Value.int .i64))) : n = L.length ∧ IntRow w a L := by
  obtain ⟨a', cap', e⟩ := own_shapeT h
  injection e with e1 e2 e3
  refine ⟨e2, ?_⟩
  by_cases h0 : L = []
  · exact Or.inl h0
  · obtain ⟨g, cap2, hv, hlt, hlt2⟩ := h.form (List.length_pos_iff.2 h0)
    injection hv with hv1 hv2 hv3
    subst hv1
    refine Or.inr ⟨g, 0, rfl, hlt2, fun i hi => ?_⟩
    have hc := h.cells (g := g) rfl i (.int .i64 L[i]) (by simp [hi])
    rw [add_flat] at hc; exact hc
theorem IntRow.below {w w' : World} {a : Option Addr} {L : List Int} {B : Nat} (h : IntRow w a L) (hb : Below B w w') (hB : w.heap.size ≤ B) : IntRow w' a L := by
  rcases h with h | ⟨b, o, h1, h2, h3⟩
  · exact .inl h
  · exact .inr ⟨b, o, h1, Nat.lt_of_lt_of_le h2 hb.size, fun i hi => (hb.cell (p := ⟨b, o + i, none⟩) (Nat.lt_of_lt_of_le h2 hB)).trans (h3 i hi)⟩
theorem IntRow.take {w : World} {a : Option Addr} {L : List Int} (h : IntRow w a L) (k : Nat) : IntRow w a (L.take k) := by
  rcases h with h | ⟨b, o, h1, h2, h3⟩
  · exact .inl (by rw [h]; simp)
  · exact .inr ⟨b, o, h1, h2, fun i hi => by rw [h3 i (by rw [List.length_take] at hi; omega)]; simp⟩

theorem mem_take_succ {L : List Int} {k : Nat} (h : k < L.length) (n : Int) : n ∈ L.take (k + 1) ↔ n ∈ L.take k ∨ n = L[k] := by
  rw [List.take_succ_eq_append_getElem h, List.mem_append, List.mem_singleton]
set_option maxHeartbeats 1000000 in
theorem in_any (L : List Int) (a : Option Addr) (cap : Nat) (q : Int) (w : World) (hL : L.length ≤ 1000000) (hr : IntRow w a L) :
    Calls Try.prog 82 #[.slice a L.length cap, .int .i64 q] w fun e w' => e = .returned (.bool (decide (q ∈ L))) ∧ w = w' := by
  obtain ⟨m, hm⟩ : ∃ m, L.length = m := ⟨_, rfl⟩
  obtain ⟨res, hres⟩ : ∃ res, decide (q ∈ L) = res := ⟨_, rfl⟩
  rw [hm] at hL ⊢; rw [hres]
  have HM := Lib.hid hm; have HRES := Lib.hid hres; have HR := Lib.hid hr; clear hm hres hr
  go_enter Try.func82, Try.ntmps82
  go_wp2_with fail
  go_loopg [5] m (fun gk i wr => ∃ k : Nat, k ≤ m ∧ i = .int .i64 k ∧ ¬ q ∈ L.take k ∧ w = wr ∧ gk = m - k)
  case atStart => exact ⟨0, Nat.zero_le _, rfl, by simp, rfl, rfl⟩
  case round =>
    obtain ⟨k, hk, rfl, hq, hw, rfl⟩ := hrel
    subst hw
    have HQ := Lib.hid hq; clear hq
    by_cases hlt : k < m
    · have hkl : k < L.length := by rw [HM.out]; exact hlt
      rcases HR.out with h0 | ⟨b, o, rfl, hb, hc⟩
      · rw [h0] at hkl; simp at hkl
      · have hck := hc k hkl
        have hmt := mem_take_succ hkl q
        obtain ⟨x, hx⟩ : ∃ x, L[k] = x := ⟨_, rfl⟩
        rw [hx] at hck hmt
        have hmem : x ∈ L := by rw [← hx]; exact List.getElem_mem hkl
        have HMT := Lib.hid hmt; have HMEM := Lib.hid hmem; clear hc hmt hmem hx hkl
        by_cases hxq : x = q
        · have g1 : (x == q) = true := by simp [hxq]
          have HXQ := Lib.hid hxq; clear hxq
          go_wp2_with fail
          go_ret
          exact ⟨ret_boolT (by rw [← HRES.out]; exact (decide_eq_true (HXQ.out ▸ HMEM.out)).symm), rfl⟩
        · have g1 : (x == q) = false := by simp [hxq]
          have HXQ := Lib.hid hxq; clear hxq
          go_wp2_with fail
          go_roundg (m - (k + 1))
          case measure => omega
          case rel => exact ⟨k + 1, by omega, by go_num, fun h => (HMT.out.1 h).elim HQ.out (fun e => HXQ.out e.symm), rfl, rfl⟩
    · obtain rfl : k = m := by omega
      go_wp2_with fail
      go_ret
      exact ⟨ret_boolT (by rw [← HRES.out]; exact (decide_eq_false (by have := HQ.out; rwa [List.take_of_length_le (by rw [HM.out]; exact Nat.le_refl _)] at this)).symm), rfl⟩

set_option maxHeartbeats 1000000 in
theorem ints_any (L K : List Int) (a : Option Addr) (cap : Nat) (a' : Option Addr) (cap' : Nat) (w : World) (hL : L.length ≤ 1000000) (hK : K.length ≤ 1000000) (hr : IntRow w a L) (hr' : IntRow w a' K) :
    Calls Try.prog 74 #[.slice a L.length cap, .slice a' K.length cap'] w fun e w' => e = .returned (.bool (decide (L = K))) ∧ Below w.heap.size w w' := by
  obtain ⟨m, hm⟩ : ∃ m, L.length = m := ⟨_, rfl⟩
  obtain ⟨m', hm'⟩ : ∃ m, K.length = m := ⟨_, rfl⟩
  obtain ⟨res, hres⟩ : ∃ res, decide (L = K) = res := ⟨_, rfl⟩
  rw [hm] at hL ⊢; rw [hm'] at hK ⊢; rw [hres]
  have HM := Lib.hid hm; have HM' := Lib.hid hm'; have HRES := Lib.hid hres; have HR := Lib.hid hr; have HR' := Lib.hid hr'; clear hm hm' hres hr hr'
  by_cases hmm : m = m'
  · subst hmm
    go_enter Try.func74, Try.ntmps74
    go_wp2_with fail
    go_loopg [5] m (fun gk i wr => ∃ k : Nat, k ≤ m ∧ i = .int .i64 k ∧ L.take k = K.take k ∧ Below w.heap.size w wr ∧ gk = m - k)
    case atStart => exact ⟨0, Nat.zero_le _, rfl, by simp, Below.refl _ _, rfl⟩
    case round =>
      obtain ⟨k, hk, rfl, hq, hb, rfl⟩ := hrel
      have HQ := Lib.hid hq; have HB := Lib.hid hb; clear hq hb
      by_cases hlt : k < m
      · have hkl : k < L.length := by rw [HM.out]; exact hlt
        have hkl' : k < K.length := by rw [HM'.out]; exact hlt
        rcases HR.out.below HB.out (Nat.le_refl _) with h0 | ⟨b, o, rfl, hb, hc⟩
        · rw [h0] at hkl; simp at hkl
        · rcases HR'.out.below HB.out (Nat.le_refl _) with h0 | ⟨b', o', rfl, hb', hc'⟩
          · rw [h0] at hkl'; simp at hkl'
          · have hck := hc k hkl
            have hck' := hc' k hkl'
            have htk : L.take (k + 1) = L.take k ++ [L[k]] := List.take_succ_eq_append_getElem hkl
            have htk' : K.take (k + 1) = K.take k ++ [K[k]] := List.take_succ_eq_append_getElem hkl'
            have hne : L[k] ≠ K[k] → L ≠ K := fun h e => h (by subst e; rfl)
            obtain ⟨x, hx⟩ : ∃ x, L[k] = x := ⟨_, rfl⟩
            obtain ⟨y, hy⟩ : ∃ x, K[k] = x := ⟨_, rfl⟩
            rw [hx] at hck htk hne; rw [hy] at hck' htk' hne
            have HT := Lib.hid htk; have HT' := Lib.hid htk'; have HNE := Lib.hid hne; clear hc hc' htk htk' hx hy hkl hkl' hne hb hb'
            by_cases hxq : x = y
            · have g1 : (x != y) = false := by simp [hxq]
              have HXQ := Lib.hid hxq; clear hxq
              go_wp2_with fail
              go_quiet (fail)
              go_wp2_with fail
              go_roundg (m - (k + 1))
              case measure => omega
              case rel => exact ⟨k + 1, by omega, by go_num, by rw [HT.out, HT'.out, HQ.out, HXQ.out], below_drewM HB.out _, rfl⟩
            · have g1 : (x != y) = true := by simp [hxq]
              have HXQ := Lib.hid hxq; clear hxq
              go_wp2_with fail
              go_quiet (fail)
              go_wp2_with fail
              go_ret
              exact ⟨ret_boolT (by rw [← HRES.out]; exact (decide_eq_false (HNE.out HXQ.out)).symm), below_drewM HB.out _⟩
      · obtain rfl : k = m := by omega
        go_wp2_with fail
        go_ret
        exact ⟨ret_boolT (by rw [← HRES.out]; exact (decide_eq_true (by have := HQ.out; rwa [List.take_of_length_le (by rw [HM.out]; exact Nat.le_refl _), List.take_of_length_le (by rw [HM'.out]; exact Nat.le_refl _)] at this)).symm), HB.out⟩
  · have g1 : ((m : Int) != (m' : Int)) = true := by simp; omega
    have HMM := Lib.hid hmm; clear hmm
    go_enter Try.func74, Try.ntmps74
    go_wp2_with fail
    go_ret
    exact ⟨ret_boolT (by rw [← HRES.out]; exact (decide_eq_false (fun e => HMM.out (by rw [← HM.out, ← HM'.out, e]))).symm), Below.refl _ _⟩

/-- What count tells: as many as there are, up to 600. -/
def CountPost (s : Nat) (n : Int) (w : World) (e : Ending) (w' : World) : Prop := ∃ m : Int, e = .returned (.int .i64 m) ∧ (n + s ≤ 600 → m = n + s) ∧ (600 < n + s → 600 < m) ∧ n ≤ m ∧ m ≤ max n 600 + 1 ∧ Below w.heap.size w w'

set_option maxHeartbeats 1000000 in
theorem count_any : ∀ (f : Nat) (t : T) (a : Option Addr) (cap : Nat) (n : Int) (w : World), Tp.size t ≤ f → 0 ≤ n → n ≤ 100000 → TyAt (LT w.heap.size) w t a cap →
    Calls Try.prog 61 #[tv t a cap, .int .i64 n] w (CountPost (Tp.size t) n w) := by
  intro f
  induction f with
  | zero => intro t a cap n w h; have := Tp.size_pos t; omega
  | succ f ih =>
    intro t a cap n w hn h0 hn1 hty
    have hm10 : (t.kids.length : Int) ≤ 9223372036854775807 := by have h1 := hty.2.2.1; have h2 := hty.2.2.2.1; unfold maxLen at h2; omega
    have HN := Lib.hid hn; have HTY := Lib.hid hty; have IH := Lib.hid ih; clear hn hty ih
    obtain ⟨m, hm⟩ : ∃ m, t.kids.length = m := ⟨_, rfl⟩
    unfold tv
    rw [hm] at hm10 ⊢
    have HM := Lib.hid hm; clear hm
    go_enter Try.func61, Try.ntmps61
    go_wp2_with fail
    go_loopg [1, 5] m (fun gk v i wr => ∃ (k : Nat) (x : Int), k ≤ m ∧ i = .int .i64 k ∧ v = .int .i64 x ∧ (n + 1 + (Tp.sizes (t.kids.take k) : Nat) ≤ 600 → x = n + 1 + (Tp.sizes (t.kids.take k) : Nat)) ∧ (600 < n + 1 + (Tp.sizes (t.kids.take k) : Nat) → 600 < x) ∧ n + 1 ≤ x ∧ x ≤ max n 600 + 1 ∧
      Below (w.heap.size + 1) (w.alloc (.cells #[.int .i64 t.kind, .int .i64 t.num, .slice a m cap] 26)) wr ∧ gk = m - k)
    case atStart => exact ⟨0, n + 1, Nat.zero_le _, rfl, rfl, by simp [Tp.sizes], by simp [Tp.sizes], Int.le_refl _, by omega, Below.refl _ _, rfl⟩
    case round =>
      obtain ⟨k, x, hk, rfl, rfl, q1, q2, q3, q4, hb, rfl⟩ := hrel
      have c2 : wr.cell? ⟨w.heap.size, 2, none⟩ = some (.slice a m cap) := cell_box (World.alloc_heap_new w _) (hb.block w.heap.size (by omega)) rfl
      have hbw : Below w.heap.size w wr := ((Below.refl _ _).alloc (Nat.le_refl _) _).trans (hb.mono (by omega))
      have hx100 : x ≤ 100001 := by omega
      have hx0 : 0 ≤ x := by omega
      have HB := Lib.hid hb; have HBW := Lib.hid hbw; have Q1 := Lib.hid q1; have Q2 := Lib.hid q2; have Q3 := Lib.hid q3; have Q4 := Lib.hid q4; clear hb hbw q1 q2 q3 q4
      by_cases hlt : k < m
      · have hkl : k < t.kids.length := by rw [HM.out]; exact hlt
        by_cases hx6 : x ≤ 600
        · obtain ⟨b, o, xa, xcap, rfl, hbn, hx, x0, x1, x2⟩ := kid_at HTY.out HBW.out (Nat.le_refl _) hkl
          have hst := sizes_take t.kids k hkl
          have hsk := size_kid t.kids k hkl
          have hss := size_kids t
          have hcall := IH.out t.kids[k] xa xcap x wr (by have := HN.out; omega) hx0 (by omega) hx
          unfold tv at hcall
          obtain ⟨y, hy⟩ : ∃ x, t.kids[k] = x := ⟨_, rfl⟩
          rw [hy] at x0 x1 x2 hcall hst
          obtain ⟨s2, hs2⟩ : ∃ s1, Tp.size y = s1 := ⟨_, rfl⟩
          rw [hs2] at hcall hst
          have HST := Lib.hid hst; have HC := Lib.hid hcall
          clear hst hcall hsk hss hx hy hs2
          go_wp2_with (go_at_call 61; refine HC.out.mono ?_; rintro e w' ⟨z, rfl, z1, z2, z3, z4, hb'⟩; have Z1 := Lib.hid z1; have Z2 := Lib.hid z2; have Z3 := Lib.hid z3; have Z4 := Lib.hid z4; clear z1 z2 z3 z4)
          go_roundg (m - (k + 1))
          case measure => omega
          case rel =>
            have a1 := Q1.out; have a2 := Q2.out; have a3 := Q3.out; have a4 := Q4.out; have b1 := Z1.out; have b2 := Z2.out; have b3 := Z3.out; have b4 := Z4.out; have st := HST.out
            exact ⟨k + 1, z, by omega, by go_num, rfl, by rw [st]; omega, by rw [st]; omega, by omega, by omega, HB.out.trans (hb'.mono (by have := HB.out.size; rw [World.size_alloc] at this; exact this)), rfl⟩
        · have g1 : decide (x ≤ 600) = false := by simp; omega
          have hst := sizes_take_le t.kids k
          have hss := size_kids t
          have hns : 600 < n + (Tp.size t : Nat) := by have := Q1.out; omega
          have HNS := Lib.hid hns; have HX6 := Lib.hid hx6; clear hns hst hss hx6
          go_wp2_with fail
          go_ret
          have a3 := Q3.out; have a4 := Q4.out; have ns := HNS.out; have x6 := HX6.out
          exact ⟨x, rfl, by omega, by omega, by omega, by omega, HBW.out⟩
      · obtain rfl : k = m := by omega
        have hss := size_kids t
        have htk : t.kids.take k = t.kids := List.take_of_length_le (by rw [HM.out]; exact Nat.le_refl _)
        have HTK := Lib.hid htk; have HSS := Lib.hid hss; clear hss htk
        go_wp2_with fail
        all_goals
          go_ret
          have a1 := Q1.out; have a2 := Q2.out; have a3 := Q3.out; have a4 := Q4.out; have ss := HSS.out
          rw [HTK.out] at a1 a2
          exact ⟨x, rfl, by omega, by omega, by omega, by omega, HBW.out⟩
end Go.Proofs.Ytaaapdfdedknfaa
