/- Walks: Num, ParseNum. -/
import Derived.Test.YthiifacfkeibbaaDoorPureB
import Derived.Test.YthiifacfkeibbaaDoorShelf
import Derived.Test.YthiifacfkeibbaaDoorWalkA
import Derived.WalkSmall
import Derived.Lib.SmallJoins
import Derived.Lib.LaidTab
namespace Go.Proofs.YthiifacfkeibbaaDoor
open Go Go.RowKit
open Go.Proofs

theorem gTab : Tryd.prog.globalNamed "internal/strconv.uint64pow10" = some 3 := by kernel_rfl
theorem gSyn : Tryd.prog.globalNamed "strconv.ErrSyntax" = some 1 := by kernel_rfl
theorem gRng : Tryd.prog.globalNamed "strconv.ErrRange" = some 2 := by kernel_rfl
/-- What the library's variables hold, and that they lie among the world's blocks. -/
structure Good (w : World) : Prop where
  tab : Lib.TabIs Tryd.prog w "internal/strconv.uint64pow10" .u64 Lib.pow10Tab
  syn : ∃ tp p, w.var? Tryd.prog "strconv.ErrSyntax" = some #[.iface tp p]
  rng : ∃ tp p, w.var? Tryd.prog "strconv.ErrRange" = some #[.iface tp p]
theorem var_lt {w : World} {n : String} {g : Nat} {cs : Array Value} (hg : Tryd.prog.globalNamed n = some g) (h : w.var? Tryd.prog n = some cs) : g < w.heap.size := by
  unfold World.var? at h
  rw [hg] at h
  simp only [Option.bind_some] at h
  rcases Nat.lt_or_ge g w.heap.size with hlt | hge
  · exact hlt
  · rw [Array.getElem?_eq_none hge] at h; simp at h
theorem Good.below {w w' : World} (h : Good w) (hb : Below w.heap.size w w') : Good w' := by
  obtain ⟨ht, ⟨a, p, hs⟩, ⟨b, q, hr⟩⟩ := h
  exact ⟨var?_below hb gTab (var_lt gTab ht) ht, ⟨a, p, var?_below hb gSyn (var_lt gSyn hs) hs⟩, ⟨b, q, var?_below hb gRng (var_lt gRng hr) hr⟩⟩

theorem below_drewN (B : Nat) (w : World) (k : Nat) : Below B w (w.drewN k) := ⟨rfl, rfl, rfl, Nat.le_refl _, fun _ _ => rfl⟩
theorem below_grow (w : World) (k : Nat) (os : Array Obj) : Below w.heap.size w (Sort.grow (w.drewN k) os) :=
  (below_drewN _ w k).trans ⟨rfl, rfl, rfl, by simp, fun i hi => Sort.heap_grow_old _ _ hi⟩

/-! ### The library's cuts -/
theorem cut_yes (s : ByteArray) (c : UInt8) (r : List UInt8) (h : s.data.toList = c :: r) (w : World) :
    Calls Tryd.prog 49 #[.string s, .string { data := #[c] }] w fun e w' => e = .returned (.tuple #[.string ⟨r.toArray⟩, .bool true]) ∧ w = w' := by
  refine (Tryd.strings_CutPrefix _ _ w).mono ?_
  rintro e w' ⟨rfl, rfl⟩
  rw [h]
  exact ⟨by simp [Lib.trimPrefix, Lib.hasPrefix], rfl⟩
theorem cut_no (s : ByteArray) (c : UInt8) (h : s.data.toList.head? ≠ some c) (w : World) :
    Calls Tryd.prog 49 #[.string s, .string { data := #[c] }] w fun e w' => e = .returned (.tuple #[.string s, .bool false]) ∧ w = w' := by
  refine (Tryd.strings_CutPrefix _ _ w).mono ?_
  rintro e w' ⟨rfl, rfl⟩
  have hp : Lib.hasPrefix s.data.toList [c] = false := by
    cases hl : s.data.toList with
    | nil => rfl
    | cons a r =>
      rw [hl] at h; simp at h
      simp only [Lib.hasPrefix, List.isPrefixOf, Bool.and_eq_false_iff, beq_eq_false_iff_ne]; exact Or.inl fun e => h e.symm
  refine ⟨?_, rfl⟩
  show Ending.returned (.tuple #[.string ⟨(Lib.trimPrefix s.data.toList [c]).toArray⟩, .bool (Lib.hasPrefix s.data.toList [c])]) = _
  rw [Lib.trimPrefix, hp, if_neg (by simp), Lib.mk_data]
theorem suf_yes (s : ByteArray) (c : UInt8) (r : List UInt8) (h : s.data.toList = r ++ [c]) (hs : s.size ≤ 9223372036854775807) (w : World) :
    Calls Tryd.prog 52 #[.string s, .string { data := #[c] }] w fun e w' => e = .returned (.tuple #[.string ⟨r.toArray⟩, .bool true]) ∧ w = w' := by
  refine (Tryd.strings_CutSuffix _ _ w hs).mono ?_
  rintro e w' ⟨rfl, rfl⟩
  rw [h]
  have hp : Lib.hasSuffix (r ++ [c]) [c] = true := by simp [Lib.hasSuffix]
  refine ⟨?_, rfl⟩
  show Ending.returned (.tuple #[.string ⟨(Lib.trimSuffix (r ++ [c]) [c]).toArray⟩, .bool (Lib.hasSuffix (r ++ [c]) [c])]) = _
  rw [Lib.trimSuffix, hp, if_pos rfl]; simp
theorem suf_no (s : ByteArray) (c : UInt8) (h : ∀ r, s.data.toList ≠ r ++ [c]) (hs : s.size ≤ 9223372036854775807) (w : World) :
    Calls Tryd.prog 52 #[.string s, .string { data := #[c] }] w fun e w' => e = .returned (.tuple #[.string s, .bool false]) ∧ w = w' := by
  refine (Tryd.strings_CutSuffix _ _ w hs).mono ?_
  rintro e w' ⟨rfl, rfl⟩
  have hp : Lib.hasSuffix s.data.toList [c] = false := by
    cases hh : Lib.hasSuffix s.data.toList [c] with
    | false => rfl
    | true =>
      obtain ⟨r, hr⟩ := List.isSuffixOf_iff_suffix.1 hh
      exact absurd hr.symm (h r)
  refine ⟨?_, rfl⟩
  show Ending.returned (.tuple #[.string ⟨(Lib.trimSuffix s.data.toList [c]).toArray⟩, .bool (Lib.hasSuffix s.data.toList [c])]) = _
  rw [Lib.trimSuffix, hp, if_neg (by simp), Lib.mk_data]

theorem ret_string {a b : ByteArray} (h : a.data.toList = b.data.toList) : Ending.returned (.string a) = .returned (.string b) := by
  have : a = b := by cases a; cases b; congr 1; exact Array.toList_inj.1 h
  rw [this]

set_option maxHeartbeats 400000 in
theorem num_any (n : Int) (h : Wd.inI64 n) (w : World) (hg : Good w) :
    Calls Tryd.prog 51 #[.int .i64 n] w fun e w' => e = .returned (.string ⟨(Wd.num n).toArray⟩) ∧ Below w.heap.size w w' := by
  obtain ⟨hlo, hhi⟩ := h
  have ht := hg.tab
  have HT := Lib.hid ht
  have hlen := Wd.dec_len20 n.natAbs (by omega)
  clear ht hg
  by_cases hn : n < 0
  · obtain ⟨e1, e2⟩ := Wd.num_neg hn
    have E1 := Lib.hid e1; have E2 := Lib.hid e2; clear e1 e2
    go_enter Tryd.func51, Tryd.ntmps51
    go_wp2_with fail
    refine (Tryd.strconv_FormatInt_10 n hlo hhi _ HT.out).mono ?_
    rintro e w1 ⟨rfl, k, os, rfl⟩
    rw [E2.out]
    have hb := below_grow w k os
    generalize Sort.grow (w.drewN k) os = w1 at *
    go_wp2_with (go_at_call 49; refine (cut_yes _ 45 (Lib.decDigits n.natAbs) (by simp) _).mono ?_; rintro e w' ⟨rfl, rfl⟩)
    go_ret
    exact ⟨ret_string (by rw [E1.out]; simp), hb⟩
  · obtain ⟨e1, e2⟩ := Wd.num_pos hn
    obtain ⟨c, r, hd, hc1, hc2⟩ := Wd.dec_head n.toNat
    rw [hd] at e1 e2
    have hne : (c :: r).head? ≠ some 45 := by
      simp; rintro rfl; simp at hc1
    have E1 := Lib.hid e1; have E2 := Lib.hid e2; have HN := Lib.hid hne; clear e1 e2 hne hd hc1 hc2
    go_enter Tryd.func51, Tryd.ntmps51
    go_wp2_with fail
    refine (Tryd.strconv_FormatInt_10 n hlo hhi _ HT.out).mono ?_
    rintro e w1 ⟨rfl, k, os, rfl⟩
    rw [E2.out]
    have hb := below_grow w k os
    generalize Sort.grow (w.drewN k) os = w1 at *
    go_wp2_with (go_at_call 49; refine (cut_no _ 45 (by simpa using HN.out) _).mono ?_; rintro e w' ⟨rfl, rfl⟩)
    go_ret
    exact ⟨ret_string (by rw [E1.out]), hb⟩

/-! ### ParseInt -/
theorem pi_any (s : ByteArray) (hlim : s.size ≤ 281474976710656) (w : World) (hg : Good w) :
    Calls Tryd.prog 50 #[.string s, .int .i64 10, .int .i64 64] w fun e w' => (∃ v, Lib.parseIntB 64 s.data.toList = .ok v ∧ e = .returned (.tuple #[.int .i64 v, .nilIface]) ∧ Below w.heap.size w w') ∨ (∃ v tp p, (∀ u, Lib.parseIntB 64 s.data.toList ≠ .ok u) ∧ e = .returned (.tuple #[.int .i64 v, .iface tp p]) ∧ Below w.heap.size w w') := by
  rcases Wd.end3 (Lib.parseIntB 64 s.data.toList) with ⟨v, h⟩ | h | h
  · refine (Tryd.strconv_ParseInt_10_at64_ok s (by omega) v h w).mono ?_
    rintro e w' ⟨rfl, hw⟩
    refine Or.inl ⟨v, h, rfl, ?_⟩
    rcases hw with rfl | ⟨t, rfl⟩
    · exact Below.refl _ _
    · exact Lib.bytesWorld_below _ _ _
  · obtain ⟨tp, p, hv⟩ := hg.syn
    refine (Tryd.strconv_ParseInt_10_at64_syntax_var s hlim h tp p w hv).mono ?_
    rintro e w' ⟨N, rfl, -, -, hb⟩
    exact Or.inr ⟨_, _, _, (by rw [h]; intro u e; cases e), rfl, hb⟩
  · obtain ⟨tp, p, hv⟩ := hg.rng
    refine (Tryd.strconv_ParseInt_10_at64_range_var s hlim h tp p w hv).mono ?_
    rintro e w' ⟨N, rfl, -, -, hb⟩
    exact Or.inr ⟨_, _, _, (by rw [h]; intro u e; cases e), rfl, hb⟩

set_option maxHeartbeats 400000 in
theorem parse_yes (n : Int) (h : Wd.inI64 n) (w : World) (hg : Good w) :
    Calls Tryd.prog 42 #[.string ⟨(Wd.num n).toArray⟩] w fun e w' => e = .returned (.tuple #[.int .i64 n, .int .i64 0]) ∧ Below w.heap.size w w' := by
  have hp := Wd.parse_itoa n h
  have hlen := Wd.dec_len20 n.natAbs (Wd.natAbs_lt n h)
  have hlen2 := Wd.num_len n h
  have HG := Lib.hid hg; clear hg
  have HH := Lib.hid h; clear h
  by_cases hn : n < 0
  · obtain ⟨e1, e2⟩ := Wd.num_neg hn
    rw [e2] at hp
    have E1 := Lib.hid e1; have HP := Lib.hid hp; clear e1 e2 hp
    go_enter Tryd.func42, Tryd.ntmps42
    go_wp2_with (go_at_call 49; refine (cut_yes _ 126 (Lib.decDigits n.natAbs) (by simpa using E1.out) _).mono ?_; rintro e w' ⟨rfl, rfl⟩)
    refine (pi_any _ (by simp [Lib.size_eq]; omega) _ HG.out).mono ?_
    have ex : ({ data := #[45] } ++ { data := (Lib.decDigits n.natAbs).toArray } : ByteArray).data.toList = 45 :: Lib.decDigits n.natAbs := by simp
    rw [ex, HP.out]
    clear ex
    rintro e w1 (⟨v, hv, rfl, hb⟩ | ⟨v, tp, p, hno, rfl, hb⟩)
    · injection hv with hv; subst hv
      go_wp2_with (go_at_call 51; refine (num_any n HH.out _ (HG.out.below hb)).mono ?_; rintro e w2 ⟨rfl, hb2⟩)
      go_ret2
      exact ⟨rfl, hb.trans (hb2.mono hb.size)⟩
    · exact absurd rfl (hno n)
  · obtain ⟨e1, e2⟩ := Wd.num_pos hn
    obtain ⟨c, r, hd, hc1, hc2⟩ := Wd.dec_head n.toNat
    have hne : (Wd.num n).head? ≠ some 126 := by
      rw [e1, hd]; simp; rintro rfl; simp at hc2
    rw [e2, ← e1] at hp
    have HN := Lib.hid hne; have HP := Lib.hid hp; clear e1 e2 hp hne hd hc1 hc2
    go_enter Tryd.func42, Tryd.ntmps42
    go_wp2_with (go_at_call 49; refine (cut_no _ 126 (by simpa using HN.out) _).mono ?_; rintro e w' ⟨rfl, rfl⟩)
    refine (pi_any _ (by simp [Lib.size_eq]; omega) _ HG.out).mono ?_
    have ex : ({ data := (Wd.num n).toArray } : ByteArray).data.toList = Wd.num n := by simp
    rw [ex, HP.out]
    clear ex
    rintro e w1 (⟨v, hv, rfl, hb⟩ | ⟨v, tp, p, hno, rfl, hb⟩)
    · injection hv with hv; subst hv
      go_wp2_with (go_at_call 51; refine (num_any n HH.out _ (HG.out.below hb)).mono ?_; rintro e w2 ⟨rfl, hb2⟩)
      go_ret2
      exact ⟨rfl, hb.trans (hb2.mono hb.size)⟩
    · exact absurd rfl (hno n)

theorem in_of_ok {l : List UInt8} {v : Int} (h : Lib.parseIntB 64 l = .ok v) : Wd.inI64 v := by
  have hb := Lib.parseIntB_bounds h
  have hp2 : (2 : Nat) ^ (64 - 1) = 9223372036854775808 := by decide
  rw [hp2] at hb
  exact ⟨by omega, by omega⟩

set_option maxHeartbeats 400000 in
theorem parse_no (s : ByteArray) (hs : s.size ≤ 1000000) (h : ∀ n, Wd.inI64 n → Wd.num n ≠ s.data.toList) (w : World) (hg : Good w) :
    Calls Tryd.prog 42 #[.string s] w fun e w' => e = .returned (.tuple #[.int .i64 0, .int .i64 3]) ∧ Below w.heap.size w w' := by
  have hl : s.data.toList.length = s.size := by simp
  have HG := Lib.hid hg; clear hg
  have HH := Lib.hid h; clear h
  by_cases hp : ∃ r, s.data.toList = 126 :: r
  · obtain ⟨r, hr⟩ := hp
    have hrl : r.length ≤ 1000000 := by rw [hr] at hl; simp at hl; omega
    have HR := Lib.hid hr; clear hr hl
    go_enter Tryd.func42, Tryd.ntmps42
    go_wp2_with (go_at_call 49; refine (cut_yes _ 126 r HR.out _).mono ?_; rintro e w' ⟨rfl, rfl⟩)
    refine (pi_any _ (by simp [Lib.size_eq]; omega) _ HG.out).mono ?_
    rintro e w1 (⟨v, hv, rfl, hb⟩ | ⟨v, tp, p, hno, rfl, hb⟩)
    · have hin := in_of_ok hv
      have hne : (Wd.num v == s.toList) = false := by
        rw [beq_eq_false_iff_ne, ByteArray.toList_eq]; exact HH.out v hin
      have HI := Lib.hid hin; clear hv hin
      go_wp2_with (go_at_call 51; refine (num_any v HI.out _ (HG.out.below hb)).mono ?_; rintro e w2 ⟨rfl, hb2⟩)
      all_goals go_ret2
      all_goals exact ⟨rfl, hb.trans (hb2.mono hb.size)⟩
    · clear hno
      go_wp2_with fail
      go_ret2
      exact ⟨rfl, hb⟩
  · have hne : s.data.toList.head? ≠ some 126 := by
      cases hd : s.data.toList with
      | nil => simp
      | cons a r => simp; rintro rfl; exact hp ⟨r, hd⟩
    have HN := Lib.hid hne; clear hne hp
    go_enter Tryd.func42, Tryd.ntmps42
    go_wp2_with (go_at_call 49; refine (cut_no _ 126 HN.out _).mono ?_; rintro e w' ⟨rfl, rfl⟩)
    refine (pi_any _ (by omega) _ HG.out).mono ?_
    rintro e w1 (⟨v, hv, rfl, hb⟩ | ⟨v, tp, p, hno, rfl, hb⟩)
    · have hin := in_of_ok hv
      have hne : (Wd.num v == s.toList) = false := by
        rw [beq_eq_false_iff_ne, ByteArray.toList_eq]; exact HH.out v hin
      have HI := Lib.hid hin; clear hv hin
      go_wp2_with (go_at_call 51; refine (num_any v HI.out _ (HG.out.below hb)).mono ?_; rintro e w2 ⟨rfl, hb2⟩)
      all_goals go_ret2
      all_goals exact ⟨rfl, hb.trans (hb2.mono hb.size)⟩
    · clear hno
      go_wp2_with fail
      go_ret2
      exact ⟨rfl, hb⟩
end Go.Proofs.YthiifacfkeibbaaDoor
