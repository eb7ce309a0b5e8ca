/- Walks: package lex's run and its tokens. -/
import Derived.Test.YthiifacfkeibbaaDoorLexA
namespace Go.Proofs.YthiifacfkeibbaaDoor
open Go Go.RowKit
open Go.Proofs

theorem tw_step (p : UInt8 → Bool) (l : List UInt8) (k : Nat) (h : k < l.length) (hp : p l[k] = true) (n : Nat) (hn : n = k + ((l.drop k).takeWhile p).length) : n = (k + 1) + ((l.drop (k + 1)).takeWhile p).length := by
  rw [hn, List.drop_eq_getElem_cons h, List.takeWhile_cons, if_pos hp]; simp; omega
theorem tw_stop (p : UInt8 → Bool) (l : List UInt8) (k : Nat) (h : k < l.length) (hp : p l[k] = false) (n : Nat) (hn : n = k + ((l.drop k).takeWhile p).length) : n = k := by
  rw [hn, List.drop_eq_getElem_cons h, List.takeWhile_cons, if_neg (by simp [hp])]; simp
theorem tw_end (p : UInt8 → Bool) (l : List UInt8) (k : Nat) (h : l.length ≤ k) (n : Nat) (hn : n = k + ((l.drop k).takeWhile p).length) : n = k := by
  rw [hn, List.drop_of_length_le h]; simp

set_option maxHeartbeats 400000 in
theorem run_part (l : List UInt8) (hl : l.length ≤ 1000000) (w : World) :
    Calls Tryd.prog 29 #[.string ⟨l.toArray⟩, .func (.func 30) #[] #[]] w fun e w' => e = .returned (.int .i64 ((l.takeWhile Wd.part).length : Int)) ∧ w = w' := by
  have hix := idx l
  have HIX := Lib.hid hix; clear hix
  obtain ⟨n, hn⟩ : ∃ n, n = (l.takeWhile Wd.part).length := ⟨_, rfl⟩
  rw [← hn]
  have HN := Lib.hid hn; clear hn
  go_enter Tryd.func29, Tryd.ntmps29
  go_wp2_with fail
  go_loop [8] (fun i => ∃ k : Nat, k ≤ l.length ∧ i = .int .i64 k ∧ n = k + ((l.drop k).takeWhile Wd.part).length) (fun i => l.length - (intOf i).toNat)
  case atStart => exact ⟨0, Nat.zero_le _, rfl, by rw [HN.out]; simp⟩
  case round =>
    obtain ⟨k, hk, rfl, hs⟩ := hrel
    have HS := Lib.hid hs; clear hs
    by_cases hlt : k < l.length
    · have hi := HIX.out k hlt
      cases hq : Wd.partI ((l[k]).toNat : Int)
      · have hn := tw_stop Wd.part l k hlt hq n HS.out
        have HF := Lib.hid hn; clear hn
        go_wp2_with (go_at_call 30; refine (xpart_any _ _).mono ?_; rintro e w' ⟨rfl, rfl⟩)
        go_ret
        exact ⟨ret_int (by rw [HF.out]), rfl⟩
      · have hn := tw_step Wd.part l k hlt hq n HS.out
        have HF := Lib.hid hn; clear hn
        go_wp2_with (go_at_call 30; refine (xpart_any _ _).mono ?_; rintro e w' ⟨rfl, rfl⟩)
        go_round
        case rel => exact ⟨k + 1, by omega, by go_num, HF.out⟩
        case measure => simp [intOf]; omega
    · have hn := tw_end Wd.part l k (by omega) n HS.out
      have hk2 : k = l.length := by omega
      have HF := Lib.hid hn; have HK := Lib.hid hk2; clear hn hk2
      go_wp2_with fail
      go_ret
      exact ⟨ret_int (by rw [HF.out, HK.out]), rfl⟩

set_option maxHeartbeats 400000 in
theorem run_dig (l : List UInt8) (hl : l.length ≤ 1000000) (w : World) :
    Calls Tryd.prog 29 #[.string ⟨l.toArray⟩, .func (.func 31) #[] #[]] w fun e w' => e = .returned (.int .i64 ((l.takeWhile Lx.dig).length : Int)) ∧ w = w' := by
  have hix := idx l
  have HIX := Lib.hid hix; clear hix
  obtain ⟨n, hn⟩ : ∃ n, n = (l.takeWhile Lx.dig).length := ⟨_, rfl⟩
  rw [← hn]
  have HN := Lib.hid hn; clear hn
  go_enter Tryd.func29, Tryd.ntmps29
  go_wp2_with fail
  go_loop [8] (fun i => ∃ k : Nat, k ≤ l.length ∧ i = .int .i64 k ∧ n = k + ((l.drop k).takeWhile Lx.dig).length) (fun i => l.length - (intOf i).toNat)
  case atStart => exact ⟨0, Nat.zero_le _, rfl, by rw [HN.out]; simp⟩
  case round =>
    obtain ⟨k, hk, rfl, hs⟩ := hrel
    have HS := Lib.hid hs; clear hs
    by_cases hlt : k < l.length
    · have hi := HIX.out k hlt
      cases hq : Lx.digI ((l[k]).toNat : Int)
      · have hn := tw_stop Lx.dig l k hlt hq n HS.out
        have HF := Lib.hid hn; clear hn
        go_wp2_with (go_at_call 31; refine (xdig_any _ _).mono ?_; rintro e w' ⟨rfl, rfl⟩)
        go_ret
        exact ⟨ret_int (by rw [HF.out]), rfl⟩
      · have hn := tw_step Lx.dig l k hlt hq n HS.out
        have HF := Lib.hid hn; clear hn
        go_wp2_with (go_at_call 31; refine (xdig_any _ _).mono ?_; rintro e w' ⟨rfl, rfl⟩)
        go_round
        case rel => exact ⟨k + 1, by omega, by go_num, HF.out⟩
        case measure => simp [intOf]; omega
    · have hn := tw_end Lx.dig l k (by omega) n HS.out
      have hk2 : k = l.length := by omega
      have HF := Lib.hid hn; have HK := Lib.hid hk2; clear hn hk2
      go_wp2_with fail
      go_ret
      exact ⟨ret_int (by rw [HF.out, HK.out]), rfl⟩

/-! ### What a token's function hands back -/
theorem bcell {W w1 : World} (hb : Below W.heap.size W w1) : (∀ b o, b < W.heap.size → w1.cell? ⟨b, o, none⟩ = W.cell? ⟨b, o, none⟩) ∧ (∀ b o, b < W.heap.size → w1.frozen? ⟨b, o, none⟩ = W.frozen? ⟨b, o, none⟩) :=
  ⟨fun b o h => hb.cell (p := ⟨b, o, none⟩) h, fun b o h => hb.frozen (p := ⟨b, o, none⟩) h⟩
theorem below_set5 {B : Nat} {w w1 : World} (h : Below B w w1) (g : Nat) (hg : B ≤ g) (a b c d e : Value) :
    Below B w (((((w1.setCell ⟨g, 0, none⟩ a).setCell ⟨g, 1, none⟩ b).setCell ⟨g, 2, none⟩ c).setCell ⟨g, 3, none⟩ d).setCell ⟨g, 4, none⟩ e) :=
  ((((h.setCell hg _).setCell hg _).setCell hg _).setCell hg _).setCell hg _
theorem below_in {w w1 : World} {o : Obj} (hb : Below (w.alloc o).heap.size (w.alloc o) w1) : Below w.heap.size w w1 :=
  ((Below.refl _ _).alloc (Nat.le_refl _) _).trans (hb.mono (by simp))
def Hit (b : Lx.Bare) (w : World) (e : Ending) (w' : World) : Prop :=
  e = .returned (.tuple #[.agg #[.int .i64 (b.kind : Int), .int .i64 0, .int .i64 (b.len : Int), .string ⟨b.s.toArray⟩, .int .i64 b.n], .bool true]) ∧ Below w.heap.size w w'
def Miss (w : World) (e : Ending) (w' : World) : Prop :=
  ∃ (k t : Int) (s : ByteArray) (n : Int), e = .returned (.tuple #[.agg #[.int .i64 k, .int .i64 0, .int .i64 t, .string s, .int .i64 n], .bool false]) ∧ Below w.heap.size w w'

set_option maxHeartbeats 1000000 in
theorem word_key (l : List UInt8) (hk : Wd.key l = true) (w : World) :
    Calls Tryd.prog 28 #[.string ⟨l.toArray⟩] w (Hit ⟨2, l.length, l, 0⟩ w) := by
  have h1 := key_any ⟨l.toArray⟩
  rw [show ({ data := l.toArray } : ByteArray).data.toList = l from by simp, hk] at h1
  have H1 := Lib.hid h1; clear h1 hk
  go_enter Tryd.func28, Tryd.ntmps28
  go_wp2_with (go_at_call 40; refine (H1.out _).mono ?_; rintro e w' ⟨rfl, rfl⟩)
  exact bodyPost_ret (v := .tuple #[.agg #[.int .i64 2, .int .i64 0, .int .i64 (l.length : Int), .string ⟨l.toArray⟩, .int .i64 0], .bool true]) (by simp [results, Tryd.results28, go_sem]) rfl ⟨rfl, ((Below.refl _ _).alloc (Nat.le_refl _) _).alloc (by simp) _⟩

set_option maxHeartbeats 1000000 in
theorem word_name (l : List UInt8) (hl : l.length ≤ 1000000) (hk : Wd.key l = false) (hn : Wd.name l = true) (w : World) :
    Calls Tryd.prog 28 #[.string ⟨l.toArray⟩] w (Hit ⟨1, l.length, l, 0⟩ w) := by
  have el : ({ data := l.toArray } : ByteArray).data.toList = l := by simp
  have h1 := key_any ⟨l.toArray⟩
  have h2 := name_any ⟨l.toArray⟩ (by rw [ba_size]; unfold maxLen; omega)
  rw [el, hk] at h1
  rw [el, hn] at h2
  have H1 := Lib.hid h1; have H2 := Lib.hid h2; clear h1 h2 hk hn el
  go_enter Tryd.func28, Tryd.ntmps28
  go_wp2_with (go_at_call 40; refine (H1.out _).mono ?_; rintro e w' ⟨rfl, rfl⟩)
  go_region_with (go_at_call 41; refine (H2.out _).mono ?_; rintro e w' ⟨rfl, rfl⟩)
  all_goals
    go_wp2_with fail
    exact bodyPost_ret (v := .tuple #[.agg #[.int .i64 1, .int .i64 0, .int .i64 (l.length : Int), .string ⟨l.toArray⟩, .int .i64 0], .bool true]) (by simp [results, Tryd.results28, go_sem]) rfl ⟨rfl, (((Below.refl _ _).alloc (Nat.le_refl _) _).alloc (by simp) _).drew⟩

set_option maxHeartbeats 1000000 in
theorem word_none (l : List UInt8) (hl : l.length ≤ 1000000) (hk : Wd.key l = false) (hn : Wd.name l = false) (w : World) :
    Calls Tryd.prog 28 #[.string ⟨l.toArray⟩] w (Miss w) := by
  have el : ({ data := l.toArray } : ByteArray).data.toList = l := by simp
  have h1 := key_any ⟨l.toArray⟩
  have h2 := name_any ⟨l.toArray⟩ (by rw [ba_size]; unfold maxLen; omega)
  rw [el, hk] at h1
  rw [el, hn] at h2
  have H1 := Lib.hid h1; have H2 := Lib.hid h2; clear h1 h2 hk hn el
  go_enter Tryd.func28, Tryd.ntmps28
  go_wp2_with (go_at_call 40; refine (H1.out _).mono ?_; rintro e w' ⟨rfl, rfl⟩)
  go_region_with (go_at_call 41; refine (H2.out _).mono ?_; rintro e w' ⟨rfl, rfl⟩)
  all_goals
    go_wp2_with fail
    exact bodyPost_ret (v := .tuple #[.agg #[.int .i64 1, .int .i64 0, .int .i64 (l.length : Int), .string ⟨l.toArray⟩, .int .i64 0], .bool false]) (by simp [results, Tryd.results28, go_sem]) rfl ⟨_, _, _, _, rfl, (((Below.refl _ _).alloc (Nat.le_refl _) _).alloc (by simp) _).drew⟩

set_option maxHeartbeats 1000000 in
theorem num_yes (l : List UInt8) (n : Int) (hn : Lx.pnum l = some n) (w : World) (hg : Good w) :
    Calls Tryd.prog 32 #[.string ⟨l.toArray⟩] w (Hit ⟨3, l.length, [], n⟩ w) := by
  obtain ⟨h1, h2⟩ := Lx.pnum_some hn
  have h3 := parse_yes n h1
  rw [h2] at h3
  have H3 := Lib.hid h3; have HG := Lib.hid hg; clear h1 h2 h3 hn hg
  go_enter Tryd.func32, Tryd.ntmps32
  go_wp2_with fail
  have HG1 := Lib.hid (HG.out.below ((Below.refl w.heap.size w).alloc (Nat.le_refl _) (.cells #[.int .i64 0, .int .i64 0, .int .i64 0, .string { data := #[] }, .int .i64 0] 32)))
  refine (H3.out _ HG1.out).mono ?_
  rintro e w1 ⟨rfl, hb⟩
  obtain ⟨hc, hf⟩ := bcell hb
  have hz := hb.size
  simp at hz
  go_wp2_with fail
  exact bodyPost_ret (v := .tuple #[.agg #[.int .i64 3, .int .i64 0, .int .i64 (l.length : Int), .string ⟨#[]⟩, .int .i64 n], .bool true]) (by simp [results, Tryd.results32, go_sem, hc]) rfl ⟨rfl, below_set5 (below_in hb) _ (Nat.le_refl _) _ _ _ _ _⟩

set_option maxHeartbeats 1000000 in
theorem num_no (l : List UInt8) (hl : l.length ≤ 1000000) (hn : Lx.pnum l = none) (w : World) (hg : Good w) :
    Calls Tryd.prog 32 #[.string ⟨l.toArray⟩] w (Miss w) := by
  have h3 := parse_no ⟨l.toArray⟩ (by rw [ba_size]; omega) (by simpa using Lx.pnum_none hn)
  have H3 := Lib.hid h3; have HG := Lib.hid hg; clear h3 hn hg
  go_enter Tryd.func32, Tryd.ntmps32
  go_wp2_with fail
  have HG1 := Lib.hid (HG.out.below ((Below.refl w.heap.size w).alloc (Nat.le_refl _) (.cells #[.int .i64 0, .int .i64 0, .int .i64 0, .string { data := #[] }, .int .i64 0] 32)))
  refine (H3.out _ HG1.out).mono ?_
  rintro e w1 ⟨rfl, hb⟩
  obtain ⟨hc, hf⟩ := bcell hb
  have hz := hb.size
  simp at hz
  go_wp2_with fail
  exact bodyPost_ret (v := .tuple #[.agg #[.int .i64 3, .int .i64 0, .int .i64 (l.length : Int), .string ⟨#[]⟩, .int .i64 0], .bool false]) (by simp [results, Tryd.results32, go_sem, hc]) rfl ⟨_, _, _, _, rfl, below_set5 (below_in hb) _ (Nat.le_refl _) _ _ _ _ _⟩

/-! ### A literal -/
theorem upTo_notQ : ∀ r : List UInt8, upTo 34 r = r.takeWhile Lx.notQ
  | [] => rfl
  | c :: r => by
    have ih := upTo_notQ r
    have e : Lx.notQ c = !(c == 34) := by
      unfold Lx.notQ
      congr 1
      rw [Bool.eq_iff_iff, beq_iff_eq, beq_iff_eq]
      constructor
      · intro h; exact UInt8.toNat_inj.1 (by have : (34 : UInt8).toNat = 34 := rfl; omega)
      · rintro rfl; rfl
    unfold upTo at ih ⊢
    rw [List.takeWhile_cons, List.takeWhile_cons, ← e, ih]
theorem tw_take (p : UInt8 → Bool) : ∀ l : List UInt8, l.take (l.takeWhile p).length = l.takeWhile p
  | [] => rfl
  | c :: r => by
    rw [List.takeWhile_cons]
    split
    · rw [List.length_cons, List.take_succ_cons, tw_take p r]
    · simp
theorem tw_q (r : List UInt8) (h : (r.takeWhile Lx.notQ).length < r.length) : r.take ((r.takeWhile Lx.notQ).length + 1) = r.takeWhile Lx.notQ ++ [34] := by
  have hd : r[(r.takeWhile Lx.notQ).length] = 34 := by
    have h1 := indexByte_eq 34 r
    rw [upTo_notQ, if_pos h] at h1
    have h2 := (Lib.indexByte_some h1).1
    rw [List.getElem?_eq_getElem h] at h2
    exact Option.some.inj h2
  rw [List.take_succ_eq_append_getElem h, hd, tw_take]
theorem sl_1 (c : UInt8) (r : List UInt8) (w : World) : (Instr.slice 9 (.string ⟨(c :: r).toArray⟩) (some (.int .i64 1)) none none).run Tryd.prog w = .ok (.string ⟨r.toArray⟩) w := sl_from (c :: r) 1 (by simp) w

set_option maxHeartbeats 1000000 in
theorem str_open (r : List UInt8) (hr : ¬ (r.takeWhile Lx.notQ).length < r.length) (w : World) :
    Calls Tryd.prog 33 #[.string ⟨(34 :: r).toArray⟩] w (Miss w) := by
  have h1 := index_no r 34 34 rfl (by rw [upTo_notQ]; exact hr)
  have hs := sl_1 34 r
  have H1 := Lib.hid h1; clear h1 hr
  go_enter Tryd.func33, Tryd.ntmps33
  go_wp2_with (go_at_call 39; refine (H1.out _).mono ?_; rintro e w' ⟨rfl, rfl⟩)
  exact bodyPost_ret (v := .tuple #[.agg #[.int .i64 0, .int .i64 0, .int .i64 0, .string ⟨#[]⟩, .int .i64 0], .bool false]) (by simp [results, Tryd.results33, go_sem]) rfl ⟨_, _, _, _, rfl, (Below.refl _ _).alloc (Nat.le_refl _) _⟩

set_option maxHeartbeats 1000000 in
theorem str_walk (r x : List UInt8) (m : Nat) (hml : m ≤ 1000000) (u : List UInt8) (E : Int) (q : Bool) (hE : (E == 0) = q)
    (hsl : ∀ w, (Instr.slice 9 (.string ⟨(34 :: r).toArray⟩) none (some (.int .i64 ((m : Int) + 2))) none).run Tryd.prog w = .ok (.string ⟨x.toArray⟩) w)
    (I : ∀ w, Calls Tryd.prog 39 #[.string ⟨r.toArray⟩, .int .u8 34] w fun e w' => e = .returned (.int .i64 (m : Int)) ∧ w = w')
    (U : ∀ w, Calls Tryd.prog 43 #[.string ⟨x.toArray⟩] w fun e w' => e = .returned (.tuple #[.string ⟨u.toArray⟩, .int .i64 E]) ∧ Below w.heap.size w w')
    (w : World) :
    Calls Tryd.prog 33 #[.string ⟨(34 :: r).toArray⟩] w fun e w' => e = .returned (.tuple #[.agg #[.int .i64 4, .int .i64 0, .int .i64 ((m : Int) + 2), .string ⟨u.toArray⟩, .int .i64 0], .bool q]) ∧ Below w.heap.size w w' := by
  have hs := sl_1 34 r
  have HI := Lib.hid I; have HU := Lib.hid U; clear I U
  go_enter Tryd.func33, Tryd.ntmps33
  go_wp2_with (go_at_call 39; refine (HI.out _).mono ?_; rintro e w' ⟨rfl, rfl⟩)
  refine (HU.out _).mono ?_
  rintro e w1 ⟨rfl, hb⟩
  obtain ⟨hc, hf⟩ := bcell hb
  have hz := hb.size
  simp at hz
  go_wp2_with fail
  exact bodyPost_ret (v := .tuple #[.agg #[.int .i64 4, .int .i64 0, .int .i64 ((m : Int) + 2), .string ⟨u.toArray⟩, .int .i64 0], .bool q]) (by simp [results, Tryd.results33, go_sem, hc]) rfl ⟨rfl, below_set5 (below_in hb) _ (Nat.le_refl _) _ _ _ _ _⟩

theorem str_sl (r : List UInt8) (h : (r.takeWhile Lx.notQ).length < r.length) (w : World) :
    (Instr.slice 9 (.string ⟨(34 :: r).toArray⟩) none (some (.int .i64 (((r.takeWhile Lx.notQ).length : Int) + 2))) none).run Tryd.prog w = .ok (.string ⟨(34 :: r.takeWhile Lx.notQ ++ [34]).toArray⟩) w := by
  have h1 := sl_to (34 :: r) ((r.takeWhile Lx.notQ).length + 2) (by simp; omega) w
  rw [show ((34 :: r).take ((r.takeWhile Lx.notQ).length + 2)) = 34 :: r.takeWhile Lx.notQ ++ [34] from by
    rw [show (r.takeWhile Lx.notQ).length + 2 = ((r.takeWhile Lx.notQ).length + 1) + 1 from rfl, List.take_succ_cons, tw_q r h]; rfl] at h1
  exact h1
theorem index_eq (r : List UInt8) (h : (r.takeWhile Lx.notQ).length < r.length) (w : World) :
    Calls Tryd.prog 39 #[.string ⟨r.toArray⟩, .int .u8 34] w fun e w' => e = .returned (.int .i64 ((r.takeWhile Lx.notQ).length : Int)) ∧ w = w' := by
  have h1 := index_yes r 34 34 rfl (by rw [upTo_notQ]; exact h) w
  rw [upTo_notQ] at h1
  exact h1
theorem str_yes (r : List UInt8) (hl : r.length ≤ 100000) (h : (r.takeWhile Lx.notQ).length < r.length) (u : List UInt8) (hu : Lx.plit (34 :: r.takeWhile Lx.notQ ++ [34]) = some u) (w : World) :
    Calls Tryd.prog 33 #[.string ⟨(34 :: r).toArray⟩] w (Hit ⟨4, (34 :: r.takeWhile Lx.notQ ++ [34]).length, u, 0⟩ w) := by
  obtain ⟨h1, h2⟩ := Lx.plit_some hu
  refine (str_walk r (34 :: r.takeWhile Lx.notQ ++ [34]) _ (by omega) u 0 true rfl (str_sl r h) (index_eq r h) (unq_yes _ u h1 (by simpa using h2.symm)) w).mono ?_
  rintro e w' ⟨rfl, hb⟩
  refine ⟨?_, hb⟩
  simp; omega
theorem str_no (r : List UInt8) (hl : r.length ≤ 100000) (h : (r.takeWhile Lx.notQ).length < r.length) (hu : Lx.plit (34 :: r.takeWhile Lx.notQ ++ [34]) = none) (w : World) :
    Calls Tryd.prog 33 #[.string ⟨(34 :: r).toArray⟩] w (Miss w) := by
  refine (str_walk r (34 :: r.takeWhile Lx.notQ ++ [34]) _ (by omega) [] 3 false rfl (str_sl r h) (index_eq r h) (unq_no _ (by rw [ba_size]; simp; omega) (by simpa using Lx.plit_none hu)) w).mono ?_
  rintro e w' ⟨rfl, hb⟩
  exact ⟨_, _, _, _, rfl, hb⟩

/-! ### A sign -/
theorem hp_any (l p : List UInt8) (q : Bool) (h : Lib.hasPrefix l p = q) (w : World) :
    Calls Tryd.prog 44 #[.string ⟨l.toArray⟩, .string ⟨p.toArray⟩] w fun e w' => e = .returned (.bool q) ∧ w = w' := by
  refine (Tryd.strings_HasPrefix _ _ w).mono ?_
  rintro e w' ⟨rfl, rfl⟩
  exact ⟨by subst h; simp, rfl⟩
theorem lg0 (w : World) : (Instr.slice 9 (.string { data := #[45, 62, 58, 58, 61, 61] }) (some (.int .i64 0)) (some (.int .i64 2)) none).run Tryd.prog w = .ok (.string { data := #[45, 62] }) w := by kernel_rfl
theorem lg1 (w : World) : (Instr.slice 9 (.string { data := #[45, 62, 58, 58, 61, 61] }) (some (.int .i64 2)) (some (.int .i64 4)) none).run Tryd.prog w = .ok (.string { data := #[58, 58] }) w := by kernel_rfl
theorem lg2 (w : World) : (Instr.slice 9 (.string { data := #[45, 62, 58, 58, 61, 61] }) (some (.int .i64 4)) (some (.int .i64 6)) none).run Tryd.prog w = .ok (.string { data := #[61, 61] }) w := by kernel_rfl

set_option maxHeartbeats 1000000 in
theorem sign_0 (l : List UInt8) (h0 : Lib.hasPrefix l [45, 62] = true) (w : World) :
    Calls Tryd.prog 34 #[.string ⟨l.toArray⟩] w (Hit ⟨5, 2, [45, 62], 0⟩ w) := by
  have g0 := lg0
  have H0 := Lib.hid (hp_any l [45, 62] true h0); clear h0
  go_enter Tryd.func34, Tryd.ntmps34
  go_wp2_with fail
  go_loop [4] (fun i => i = .int .i64 0) (fun i => 6 - (intOf i).toNat)
  case atStart => rfl
  case round =>
    subst hrel
    go_wp2_with (go_at_call 44; refine (H0.out _).mono ?_; rintro e w' ⟨rfl, rfl⟩)
    exact bodyPost_ret (v := .tuple #[.agg #[.int .i64 5, .int .i64 0, .int .i64 2, .string ⟨#[45, 62]⟩, .int .i64 0], .bool true]) (by simp [results, Tryd.results34, go_sem]) rfl ⟨rfl, (Below.refl _ _).alloc (Nat.le_refl _) _⟩

set_option maxHeartbeats 1000000 in
theorem sign_1 (l : List UInt8) (h0 : Lib.hasPrefix l [45, 62] = false) (h1 : Lib.hasPrefix l [58, 58] = true) (w : World) :
    Calls Tryd.prog 34 #[.string ⟨l.toArray⟩] w (Hit ⟨5, 2, [58, 58], 0⟩ w) := by
  have g0 := lg0; have g1 := lg1
  have H0 := Lib.hid (hp_any l [45, 62] false h0); have H1 := Lib.hid (hp_any l [58, 58] true h1); clear h0 h1
  go_enter Tryd.func34, Tryd.ntmps34
  go_wp2_with fail
  go_loop [4] (fun i => i = .int .i64 0 ∨ i = .int .i64 2) (fun i => 6 - (intOf i).toNat)
  case atStart => exact Or.inl rfl
  case round =>
    rcases hrel with rfl | rfl
    · go_wp2_with (go_at_call 44; refine (H0.out _).mono ?_; rintro e w' ⟨rfl, rfl⟩)
      go_round
      case rel => exact Or.inr rfl
      case measure => simp [intOf]
    · go_wp2_with (go_at_call 44; refine (H1.out _).mono ?_; rintro e w' ⟨rfl, rfl⟩)
      exact bodyPost_ret (v := .tuple #[.agg #[.int .i64 5, .int .i64 0, .int .i64 2, .string ⟨#[58, 58]⟩, .int .i64 0], .bool true]) (by simp [results, Tryd.results34, go_sem]) rfl ⟨rfl, (Below.refl _ _).alloc (Nat.le_refl _) _⟩

set_option maxHeartbeats 1000000 in
theorem sign_2 (l : List UInt8) (h0 : Lib.hasPrefix l [45, 62] = false) (h1 : Lib.hasPrefix l [58, 58] = false) (h2 : Lib.hasPrefix l [61, 61] = true) (w : World) :
    Calls Tryd.prog 34 #[.string ⟨l.toArray⟩] w (Hit ⟨5, 2, [61, 61], 0⟩ w) := by
  have g0 := lg0; have g1 := lg1; have g2 := lg2
  have H0 := Lib.hid (hp_any l [45, 62] false h0); have H1 := Lib.hid (hp_any l [58, 58] false h1); have H2 := Lib.hid (hp_any l [61, 61] true h2); clear h0 h1 h2
  go_enter Tryd.func34, Tryd.ntmps34
  go_wp2_with fail
  go_loop [4] (fun i => i = .int .i64 0 ∨ i = .int .i64 2 ∨ i = .int .i64 4) (fun i => 6 - (intOf i).toNat)
  case atStart => exact Or.inl rfl
  case round =>
    rcases hrel with rfl | rfl | rfl
    · go_wp2_with (go_at_call 44; refine (H0.out _).mono ?_; rintro e w' ⟨rfl, rfl⟩)
      go_round
      case rel => exact Or.inr (Or.inl rfl)
      case measure => simp [intOf]
    · go_wp2_with (go_at_call 44; refine (H1.out _).mono ?_; rintro e w' ⟨rfl, rfl⟩)
      go_round
      case rel => exact Or.inr (Or.inr rfl)
      case measure => simp [intOf]
    · go_wp2_with (go_at_call 44; refine (H2.out _).mono ?_; rintro e w' ⟨rfl, rfl⟩)
      exact bodyPost_ret (v := .tuple #[.agg #[.int .i64 5, .int .i64 0, .int .i64 2, .string ⟨#[61, 61]⟩, .int .i64 0], .bool true]) (by simp [results, Tryd.results34, go_sem]) rfl ⟨rfl, (Below.refl _ _).alloc (Nat.le_refl _) _⟩

theorem sl_t1 (c : UInt8) (r : List UInt8) (w : World) : (Instr.slice 9 (.string ⟨(c :: r).toArray⟩) none (some (.int .i64 1)) none).run Tryd.prog w = .ok (.string ⟨#[c]⟩) w := sl_to (c :: r) 1 (by simp) w
theorem ix_0 (c : UInt8) (r : List UInt8) (w : World) : (Instr.index 9 (.string ⟨(c :: r).toArray⟩) (.int .i64 0)).run Tryd.prog w = .ok (.int .u8 (c.toNat : Int)) w := idx (c :: r) 0 (by simp) w
/-- Where a byte stands among the signs of one byte, or -1. -/
theorem short_ix : ∀ n : Fin 256, (Lib.indexByte Lx.shorts (UInt8.ofNat n.val) = -1 ∧ Lx.shorts.contains (UInt8.ofNat n.val) = false) ∨ (0 ≤ Lib.indexByte Lx.shorts (UInt8.ofNat n.val) ∧ Lx.shorts.contains (UInt8.ofNat n.val) = true) := by decide +kernel
theorem short_at (c : UInt8) (w : World) :
    Calls Tryd.prog 39 #[.string { data := #[40, 41, 91, 93, 44, 58, 61, 124, 43, 45, 42, 47, 60, 63, 95] }, .int .u8 (c.toNat : Int)] w fun e w' => e = .returned (.int .i64 (Lib.indexByte Lx.shorts c)) ∧ w = w' := by
  refine (Tryd.strings_IndexByte _ _ w).mono ?_
  rintro e w' ⟨rfl, rfl⟩
  refine ⟨?_, rfl⟩
  have e1 : ((c.toNat : Int)).toNat.toUInt8 = c := by simp
  rw [e1]; rfl

set_option maxHeartbeats 1000000 in
theorem sign_3 (c : UInt8) (r : List UInt8) (h0 : Lib.hasPrefix (c :: r) [45, 62] = false) (h1 : Lib.hasPrefix (c :: r) [58, 58] = false) (h2 : Lib.hasPrefix (c :: r) [61, 61] = false) (hs : Lx.shorts.contains c = true) (w : World) :
    Calls Tryd.prog 34 #[.string ⟨(c :: r).toArray⟩] w (Hit ⟨5, 1, [c], 0⟩ w) := by
  have g0 := lg0; have g1 := lg1; have g2 := lg2; have g3 := sl_t1 c r; have g4 := ix_0 c r
  have H0 := Lib.hid (hp_any (c :: r) [45, 62] false h0); have H1 := Lib.hid (hp_any (c :: r) [58, 58] false h1); have H2 := Lib.hid (hp_any (c :: r) [61, 61] false h2); clear h0 h1 h2
  have hx : ∃ k : Int, 0 ≤ k ∧ ∀ w : World, Calls Tryd.prog 39 #[.string { data := #[40, 41, 91, 93, 44, 58, 61, 124, 43, 45, 42, 47, 60, 63, 95] }, .int .u8 (c.toNat : Int)] w fun e w' => e = .returned (.int .i64 k) ∧ w = w' := by
    have k := short_ix ⟨c.toNat, c.toNat_lt⟩
    simp only [UInt8.ofNat_toNat] at k
    rcases k with ⟨_, k⟩ | ⟨k, _⟩
    · rw [hs] at k; cases k
    · exact ⟨_, k, fun w => short_at c w⟩
  obtain ⟨k, hk, hx⟩ := hx
  have HX := Lib.hid hx; clear hx hs
  go_enter Tryd.func34, Tryd.ntmps34
  go_wp2_with fail
  go_loop [4] (fun i => i = .int .i64 0 ∨ i = .int .i64 2 ∨ i = .int .i64 4 ∨ i = .int .i64 6) (fun i => 6 - (intOf i).toNat)
  case atStart => exact Or.inl rfl
  case round =>
    rcases hrel with rfl | rfl | rfl | rfl
    · go_wp2_with (go_at_call 44; refine (H0.out _).mono ?_; rintro e w' ⟨rfl, rfl⟩)
      go_round
      case rel => exact Or.inr (Or.inl rfl)
      case measure => simp [intOf]
    · go_wp2_with (go_at_call 44; refine (H1.out _).mono ?_; rintro e w' ⟨rfl, rfl⟩)
      go_round
      case rel => exact Or.inr (Or.inr (Or.inl rfl))
      case measure => simp [intOf]
    · go_wp2_with (go_at_call 44; refine (H2.out _).mono ?_; rintro e w' ⟨rfl, rfl⟩)
      go_round
      case rel => exact Or.inr (Or.inr (Or.inr rfl))
      case measure => simp [intOf]
    · go_wp2_with (go_at_call 39; refine (HX.out _).mono ?_; rintro e w' ⟨rfl, rfl⟩)
      exact bodyPost_ret (v := .tuple #[.agg #[.int .i64 5, .int .i64 0, .int .i64 1, .string ⟨#[c]⟩, .int .i64 0], .bool true]) (by simp [results, Tryd.results34, go_sem]) rfl ⟨rfl, (Below.refl _ _).alloc (Nat.le_refl _) _⟩

set_option maxHeartbeats 1000000 in
theorem sign_no (c : UInt8) (r : List UInt8) (h0 : Lib.hasPrefix (c :: r) [45, 62] = false) (h1 : Lib.hasPrefix (c :: r) [58, 58] = false) (h2 : Lib.hasPrefix (c :: r) [61, 61] = false) (hs : Lx.shorts.contains c = false) (w : World) :
    Calls Tryd.prog 34 #[.string ⟨(c :: r).toArray⟩] w (Miss w) := by
  have g0 := lg0; have g1 := lg1; have g2 := lg2; have g4 := ix_0 c r
  have H0 := Lib.hid (hp_any (c :: r) [45, 62] false h0); have H1 := Lib.hid (hp_any (c :: r) [58, 58] false h1); have H2 := Lib.hid (hp_any (c :: r) [61, 61] false h2); clear h0 h1 h2
  have hx : ∀ w : World, Calls Tryd.prog 39 #[.string { data := #[40, 41, 91, 93, 44, 58, 61, 124, 43, 45, 42, 47, 60, 63, 95] }, .int .u8 (c.toNat : Int)] w fun e w' => e = .returned (.int .i64 (-1)) ∧ w = w' := by
    have k := short_ix ⟨c.toNat, c.toNat_lt⟩
    simp only [UInt8.ofNat_toNat] at k
    rcases k with ⟨k, _⟩ | ⟨_, k⟩
    · intro w
      have := short_at c w
      rw [k] at this; exact this
    · rw [hs] at k; cases k
  have HX := Lib.hid hx; clear hx hs
  go_enter Tryd.func34, Tryd.ntmps34
  go_wp2_with fail
  go_loop [4] (fun i => i = .int .i64 0 ∨ i = .int .i64 2 ∨ i = .int .i64 4 ∨ i = .int .i64 6) (fun i => 6 - (intOf i).toNat)
  case atStart => exact Or.inl rfl
  case round =>
    rcases hrel with rfl | rfl | rfl | rfl
    · go_wp2_with (go_at_call 44; refine (H0.out _).mono ?_; rintro e w' ⟨rfl, rfl⟩)
      go_round
      case rel => exact Or.inr (Or.inl rfl)
      case measure => simp [intOf]
    · go_wp2_with (go_at_call 44; refine (H1.out _).mono ?_; rintro e w' ⟨rfl, rfl⟩)
      go_round
      case rel => exact Or.inr (Or.inr (Or.inl rfl))
      case measure => simp [intOf]
    · go_wp2_with (go_at_call 44; refine (H2.out _).mono ?_; rintro e w' ⟨rfl, rfl⟩)
      go_round
      case rel => exact Or.inr (Or.inr (Or.inr rfl))
      case measure => simp [intOf]
    · go_wp2_with (go_at_call 39; refine (HX.out _).mono ?_; rintro e w' ⟨rfl, rfl⟩)
      exact bodyPost_ret (v := .tuple #[.agg #[.int .i64 0, .int .i64 0, .int .i64 0, .string ⟨#[]⟩, .int .i64 0], .bool false]) (by simp [results, Tryd.results34, go_sem]) rfl ⟨_, _, _, _, rfl, (Below.refl _ _).alloc (Nat.le_refl _) _⟩

theorem long_eq (c : UInt8) (r : List UInt8) : Lx.long c (r.getD 0 0) = (Lib.hasPrefix (c :: r) [45, 62] || Lib.hasPrefix (c :: r) [58, 58] || Lib.hasPrefix (c :: r) [61, 61]) := by
  have hb : ∀ a b : UInt8, (a == b) = (b == a) := fun a b => by rw [Bool.eq_iff_iff, beq_iff_eq, beq_iff_eq]; exact eq_comm
  cases r with
  | nil => simp [Lx.long, Lib.hasPrefix, List.isPrefixOf]
  | cons d r => simp [Lx.long, Lib.hasPrefix, List.isPrefixOf, hb]
theorem hp_two (c a b : UInt8) (r : List UInt8) (h : Lib.hasPrefix (c :: r) [a, b] = true) : c :: r.take 1 = [a, b] := by
  cases r with
  | nil => simp [Lib.hasPrefix, List.isPrefixOf] at h
  | cons d r =>
    simp [Lib.hasPrefix, List.isPrefixOf] at h
    obtain ⟨rfl, rfl⟩ := h
    simp
theorem sign_yes (c : UInt8) (r : List UInt8) (b : Lx.Bare) (h : Lx.signT c r = some b) (w : World) :
    Calls Tryd.prog 34 #[.string ⟨(c :: r).toArray⟩] w (Hit b w) := by
  unfold Lx.signT at h
  rw [long_eq] at h
  cases h0 : Lib.hasPrefix (c :: r) [45, 62]
  · cases h1 : Lib.hasPrefix (c :: r) [58, 58]
    · cases h2 : Lib.hasPrefix (c :: r) [61, 61]
      · rw [h0, h1, h2] at h
        simp only [Bool.or_self, Bool.false_eq_true, if_false] at h
        split at h
        · rename_i hs
          injection h with h; subst h
          exact sign_3 c r h0 h1 h2 hs w
        · cases h
      · rw [h0, h1, h2, hp_two _ _ _ _ h2] at h
        simp at h; subst h
        exact sign_2 _ h0 h1 h2 w
    · rw [h0, h1, hp_two _ _ _ _ h1] at h
      simp at h; subst h
      exact sign_1 _ h0 h1 w
  · rw [h0, hp_two _ _ _ _ h0] at h
    simp at h; subst h
    exact sign_0 _ h0 w
theorem sign_none (c : UInt8) (r : List UInt8) (h : Lx.signT c r = none) (w : World) :
    Calls Tryd.prog 34 #[.string ⟨(c :: r).toArray⟩] w (Miss w) := by
  unfold Lx.signT at h
  rw [long_eq] at h
  cases h0 : Lib.hasPrefix (c :: r) [45, 62]
  · cases h1 : Lib.hasPrefix (c :: r) [58, 58]
    · cases h2 : Lib.hasPrefix (c :: r) [61, 61]
      · rw [h0, h1, h2] at h
        simp only [Bool.or_self, Bool.false_eq_true, if_false] at h
        split at h
        · cases h
        · rename_i hs
          exact sign_no c r h0 h1 h2 (by simpa using hs) w
      · rw [h0, h1, h2] at h; simp at h
    · rw [h0, h1] at h; simp at h
  · rw [h0] at h; simp at h
end Go.Proofs.YthiifacfkeibbaaDoor
