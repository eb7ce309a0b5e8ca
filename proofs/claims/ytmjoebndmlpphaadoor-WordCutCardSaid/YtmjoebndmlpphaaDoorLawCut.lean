/- The walk of the law on a literal with one byte changed. -/
import Derived.Test.YtmjoebndmlpphaaDoorLawNames
import Derived.Test.YtmjoebndmlpphaaDoorLawTexts
import Derived.ChangeAlike
import Derived.RegionTactic
import Derived.Deep.QuietTactic
import Derived.BigQuiet
namespace Go.Proofs.YtmjoebndmlpphaaDoor
open Go Go.RowKit
open Go.Proofs

theorem ba_ext {a b : ByteArray} (h : a.data.toList = b.data.toList) : a = b := by
  cases a; cases b; congr 1; exact Array.toList_inj.1 h
theorem u64_mod (a : Int) (n : Nat) (h : 0 < n) (hn : n ≤ 100000) : ∃ i : Nat, wrap64 ((IntKind.u64.wrap a).tmod (n : Int)) = (i : Int) ∧ i < n := by
  have h0 : 0 ≤ IntKind.u64.wrap a := wrap_u64_nonneg a
  have h1 : (IntKind.u64.wrap a).tmod (n : Int) = (IntKind.u64.wrap a) % (n : Int) := Int.tmod_eq_emod_of_nonneg h0
  have h2 := Int.emod_nonneg (IntKind.u64.wrap a) (b := (n : Int)) (by omega)
  have h3 := Int.emod_lt_of_pos (IntKind.u64.wrap a) (b := (n : Int)) (by omega)
  refine ⟨((IntKind.u64.wrap a) % (n : Int)).toNat, ?_, by omega⟩
  rw [h1, IntWalk.wrap64_in _ ⟨by omega, by omega⟩]
  omega

set_option maxRecDepth 100000 in
set_option maxHeartbeats 1000000 in
theorem cut_walk (l x : List UInt8) (at_ : Int) (c : UInt8) (i : Nat) (hi : wrap64 ((IntKind.u64.wrap at_).tmod (x.length : Int)) = (i : Int)) (hin : i < x.length)
    (hcase : (∃ (u : List UInt8) (q : Bool), (∀ w, Calls Tryd.prog 13 #[.string ⟨(x.take i ++ c :: x.drop (i + 1)).toArray⟩] w fun e w' => e = .returned (.tuple #[.string ⟨u.toArray⟩, .int .i64 0]) ∧ Below w.heap.size w w') ∧
        (∀ w, Calls Tryd.prog 11 #[.string ⟨u.toArray⟩] w fun e w' => e = .returned (.tuple #[.string ⟨(x.take i ++ c :: x.drop (i + 1)).toArray⟩, .int .i64 0]) ∧ Below w.heap.size w w') ∧ (u == l) = q ∧ (x.take i ++ c :: x.drop (i + 1) == x) = q) ∨
      (∀ w, Calls Tryd.prog 13 #[.string ⟨(x.take i ++ c :: x.drop (i + 1)).toArray⟩] w fun e w' => e = .returned (.tuple #[.string ⟨#[]⟩, .int .i64 3]) ∧ Below w.heap.size w w'))
    (hl : l.length ≤ 200) (hx : 2 ≤ x.length) (hx2 : x.length ≤ 602)
    (Q : ∀ w, Calls Tryd.prog 11 #[.string ⟨l.toArray⟩] w fun e w' => e = .returned (.tuple #[.string ⟨x.toArray⟩, .int .i64 0]) ∧ Below w.heap.size w w')
    (w : World) (hg : Good w) :
    Calls Tryd.prog 6 #[.string ⟨l.toArray⟩, .int .i64 at_, .int .u8 (c.toNat : Int)] w fun e w' => e = .returned (.bool true) ∧ Below w.heap.size w w' := by
  have HG := Lib.hid hg; have HQ := Lib.hid Q
  have HC := Lib.hid hcase
  clear hg Q hcase
  have h1 : (i : Int) < (x.length : Int) := by omega
  have h2 : (i : Int) + 1 ≤ (x.length : Int) := by omega
  have h3 : i ≤ x.length := by omega
  have h4 : i + 1 ≤ x.length := by omega
  have hxe : ((x.length : Int) == 0) = false := by rw [beq_eq_false_iff_ne]; omega
  go_enter Tryd.func6, Tryd.ntmps6
  go_wp2_with fail
  refine (HQ.out _).mono ?_
  rintro e w1 ⟨rfl, hb1⟩
  have hcv : (convert 33 9 (.slice (some ⟨w1.heap.size, 0, none⟩) 1 1)).run Tryd.prog ((w1.alloc (.cells #[.int .u8 (c.toNat : Int)] 5)).drew) = .ok (.string { data := #[c] }) ((w1.alloc (.cells #[.int .u8 (c.toNat : Int)] 5)).drew) :=
    conv_own (B := w1.heap.size) (l := [c]) (w := (w1.alloc (.cells #[.int .u8 (c.toNat : Int)] 5)).drew) (World.ownsRow_lit w1 #[.int .u8 (c.toNat : Int)] 1 (Nat.le_refl _) (by decide) rfl)
  go_wp2_with fail
  go_cut [10] (fun v wx => v = .string ⟨(x.take i ++ c :: x.drop (i + 1)).toArray⟩ ∧ Below w.heap.size w wx)
  case first =>
    go_region
    all_goals
      go_wp2_with fail
      go_meet
      refine ⟨?_, (hb1.alloc hb1.size _).drew⟩
      congr 1
      apply ba_ext
      simp
      rw [List.take_of_length_le (by simp)]
  case rest =>
    obtain ⟨rfl, hb⟩ := hcut
    have HGx := Lib.hid (HG.out.below hb)
    clear hcv h1 h2 h3 h4
    generalize x.take i ++ c :: x.drop (i + 1) = t at *
    rcases HC.out with ⟨u, q, U, Q2, e1, e2⟩ | U
    · have HU := Lib.hid U; have HQ2 := Lib.hid Q2
      clear U Q2 HC HQ hi
      cases q
      all_goals
        go_wp2_with fail
        refine (HU.out _).mono ?_
        rintro e w2 ⟨rfl, hb2⟩
        go_wp2_with fail
        refine (HQ2.out _).mono ?_
        rintro e w3 ⟨rfl, hb3⟩
        have hb' := hb.trans ((hb2.trans (hb3.mono hb2.size)).mono hb.size)
        have HG3 := Lib.hid (HG.out.below hb')
        clear hb hb2 hb3
        go_wp2_with (go_at_call 21; refine (wakes_any _ HG3.out).mono ?_; rintro e w4 ⟨rfl, hb4⟩)
        go_ret
        exact ⟨rfl, hb'.trans (hb4.mono hb'.size)⟩
    · have HU := Lib.hid U
      clear U HC HQ hi
      go_wp2_with fail
      refine (HU.out _).mono ?_
      rintro e w2 ⟨rfl, hb2⟩
      have hb' := hb.trans (hb2.mono hb.size)
      have HG3 := Lib.hid (HG.out.below hb')
      clear hb hb2
      go_wp2_with (go_at_call 21; refine (wakes_any _ HG3.out).mono ?_; rintro e w4 ⟨rfl, hb4⟩)
      go_ret
      exact ⟨rfl, hb'.trans (hb4.mono hb'.size)⟩

set_option maxRecDepth 100000 in
set_option maxHeartbeats 1000000 in
theorem cut_big (s : ByteArray) (a b : Int) (h : 200 < s.size) (w : World) :
    Calls Tryd.prog 6 #[.string s, .int .i64 a, .int .u8 b] w fun e w' => e = .returned (.bool true) ∧ Below w.heap.size w w' := by
  go_enter Tryd.func6, Tryd.ntmps6
  go_wp2_with fail
  go_ret
  exact ⟨rfl, Below.refl _ _⟩

theorem walk_wordCut (s : ByteArray) (hs : s.size ≤ maxLen) (a : Int) (_wa : (Lit.int .i64 a).wf = true) (b : Int) (wb : (Lit.int .u8 b).wf = true) (w : World) (hg : Good w) :
    Calls Tryd.prog 6 #[.string s, .int .i64 a, .int .u8 b] w fun e w' => e = .returned (.bool true) ∧ Below w.heap.size w w' := by
  by_cases h1 : 200 < s.size
  · exact cut_big s a b h1 w
  obtain ⟨c, rfl⟩ := u8_of_wf wb
  obtain ⟨l, hl⟩ : ∃ l, s.data.toList = l := ⟨_, rfl⟩
  have hsz : l.length = s.size := by rw [← hl]; simp
  have e : s = ⟨l.toArray⟩ := by rw [← hl]; first | done | exact (Lib.mk_data s).symm
  subst e
  have el : ∀ r : List UInt8, ({ data := r.toArray } : ByteArray).data.toList = r := fun r => by simp
  have ez : ∀ r : List UInt8, ({ data := r.toArray } : ByteArray).size = r.length := fun r => by rw [Lib.size_eq]
  obtain ⟨hx1, hx2⟩ := quote_len l
  have hq := quote_any ⟨l.toArray⟩ (by omega)
  rw [el] at hq
  obtain ⟨i, hi, hin⟩ := u64_mod a (Wd.quote l).length (by omega) (by omega)
  refine cut_walk l (Wd.quote l) a c i hi hin ?_ (by omega) (by omega) (by omega) hq w hg
  generalize ht : (Wd.quote l).take i ++ c :: (Wd.quote l).drop (i + 1) = t
  have htl : t.length = (Wd.quote l).length := by rw [← ht]; simp; omega
  by_cases hu : ∃ u : List UInt8, u.length ≤ 200 ∧ Wd.quote u = t
  · obtain ⟨u, hu1, hu2⟩ := hu
    refine Or.inl ⟨u, u == l, ?_, ?_, rfl, ?_⟩
    · exact unq_yes ⟨t.toArray⟩ u hu1 (by rw [el]; exact hu2.symm)
    · have h2 := quote_any ⟨u.toArray⟩ (by rw [ez]; exact hu1)
      rw [el, hu2] at h2
      exact h2
    · rw [Bool.eq_iff_iff, beq_iff_eq, beq_iff_eq, ← hu2]
      exact ⟨fun h => Wd.quote_inj _ _ h, fun h => by rw [h]⟩
  · exact Or.inr (unq_no ⟨t.toArray⟩ (by rw [ez]; omega) (by rw [el]; exact fun u h1 h2 => hu ⟨u, h1, h2⟩))
end Go.Proofs.YtmjoebndmlpphaaDoor
