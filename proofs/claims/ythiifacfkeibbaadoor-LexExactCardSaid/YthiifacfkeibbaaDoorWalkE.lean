/- Walks: Unquote. -/
import Derived.Test.YthiifacfkeibbaaDoorWalkC
import Derived.Test.YthiifacfkeibbaaDoorWalkD
namespace Go.Proofs.YthiifacfkeibbaaDoor
open Go Go.RowKit
open Go.Proofs

def strLen : Value → Nat | .string s => s.size | _ => 0
theorem own_shape {w : World} {B : Nat} {e : TypeId} {v : Value} {n : Nat} {xs : List Value} (h : w.ownsRow B e 1 v n xs) : ∃ a cap, v = .slice a n cap := by
  rcases h.2 with ⟨rfl, rfl⟩ | ⟨g, cap, cur, rfl, _⟩
  · exact ⟨none, 0, rfl⟩
  · exact ⟨_, cap, rfl⟩
theorem extract_string {x y : List UInt8} {m n : Nat} (h : x.drop m = y) (hn : x.length ≤ n) : Value.string ((⟨x.toArray⟩ : ByteArray).extract m n) = .string ⟨y.toArray⟩ := by
  rw [Lib.extract_eq, ← h]
  congr 3
  rw [List.take_of_length_le]
  simp; omega
theorem string_eq {a b : List UInt8} (h : a = b) : Value.string ⟨a.toArray⟩ = Value.string ⟨b.toArray⟩ := by rw [h]

set_option maxHeartbeats 1000000 in
theorem unq_yes (s : ByteArray) (t : List UInt8) (ht : t.length ≤ 200) (h : s.data.toList = Wd.quote t) (w : World) :
    Calls Tryd.prog 43 #[.string s] w fun e w' => e = .returned (.tuple #[.string ⟨t.toArray⟩, .int .i64 0]) ∧ Below w.heap.size w w' := by
  obtain ⟨i0, hi, hz0, hz1, hz2⟩ := info_parts info_u8
  have hbl := (Wd.body_len t).2
  have H := Lib.hid h; clear h
  go_enter Tryd.func43, Tryd.ntmps43
  go_wp2_with (first | (go_at_call 49; refine (cut_yes _ 34 (Wd.body t ++ [34]) H.out _).mono ?_; rintro e w' ⟨rfl, rfl⟩) | (go_at_call 52; refine (suf_yes _ 34 (Wd.body t) (by simp) (by simp [Lib.size_eq]; omega) _).mono ?_; rintro e w' ⟨rfl, rfl⟩))
  go_loopw [4, 7] (fun r v wr => ∃ k : Nat, k ≤ t.length ∧ r = .string ⟨(Wd.body (t.drop k)).toArray⟩ ∧ wr.ownsRow w.heap.size 5 1 v (t.take k).length (Lib.byteCells (t.take k)) ∧ Below w.heap.size w wr) (fun r _ _ => strLen r)
  case atStart => exact ⟨0, Nat.zero_le _, rfl, World.ownsRow_nil _ _ _ _, Below.refl _ _⟩
  case round =>
    obtain ⟨k, hk, rfl, hown, hb⟩ := hrel
    have hbs := hb.size
    by_cases hlt : k < t.length
    · obtain ⟨x, hx⟩ : ∃ x, x = Wd.body (t.drop k) := ⟨_, rfl⟩
      have hx2 : x = Wd.qb t[k] ++ Wd.body (t.drop (k + 1)) := by rw [hx, List.drop_eq_getElem_cons hlt, Wd.body_cons]
      have hql := Wd.qb_len t[k]
      obtain ⟨m, hm⟩ : ∃ m, m = (Wd.qb t[k]).length := ⟨_, rfl⟩
      have hxl : m ≤ x.length := by rw [hx2, hm]; simp
      have hxe : x.isEmpty = false := by
        cases hc : x with
        | nil => rw [hc] at hxl; simp at hxl; omega
        | cons a r => rfl
      have hdrop : x.drop m = Wd.body (t.drop (k + 1)) := by rw [hx2, hm]; simp
      have hxb : x.length ≤ 1000 := by
        rw [hx]; have h1 := (Wd.body_len (t.drop k)).2; have h2 : (t.drop k).length ≤ t.length := by simp
        omega
      have hsn : (t.take k).length = k := by simp; omega
      have hcells : Lib.byteCells (t.take (k + 1)) = Lib.byteCells (t.take k) ++ [.int .u8 (t[k].toNat : Int)] := by
        rw [List.take_succ_eq_append_getElem hlt]; unfold Lib.byteCells; rw [List.map_append]; rfl
      have hm1 : 1 ≤ m := by omega
      have hm3 : m ≤ 3 := by omega
      have hm0 : ((m : Int) == 0) = false := by rw [beq_eq_false_iff_ne]; omega
      have hk2 : ((k : Int) == 200) = false := by rw [beq_eq_false_iff_ne]; omega
      have fq := fq_yes ⟨x.toArray⟩ t[k] (Wd.body (t.drop (k + 1))) (by simpa using hx2)
      rw [← hm] at fq
      rw [← hx]
      rw [hsn] at hown
      obtain ⟨a, cap, rfl⟩ := own_shape hown
      have FQ := Lib.hid fq; have HD := Lib.hid hdrop; have HC := Lib.hid hcells; have HS := Lib.hid hsn
      clear hx hx2 hm fq hdrop hcells hsn hql hbl
      generalize t[k] = c at *
      go_wp2_with (first | (go_at_call 53; refine (FQ.out _).mono ?_; rintro e w' ⟨rfl, rfl⟩) | (at_builtin; refine wpList_append_own _ rfl _ _ 22 rfl w.heap.size 5 i0 (.int .u8 0) 1 1 Tryd.underlying22 hi hz0 hz1 hz2 rfl (by decide) _ _ _ rfl (hown.alloc _) ⟨wr.heap.size, 0, none⟩ 1 1 [.int .u8 (c.toNat : Int)] rfl rfl ?c1 ?c2 ?c3 ?c4 ?c5 ?_))
      case c1 => exact cell_one_new _ _ _
      case c2 => intro u hu; simp at hu; subst hu; rfl
      case c3 => unfold maxLen; omega
      case c4 => omega
      case c5 => simp; omega
      intro v' w1 hown' hg _
      have hb2 := (hb.alloc hbs _).grown hg (by simp; omega) (fun k hk => (hown.lt k hk).1)
      go_wp2
      go_roundw
      case rel => exact ⟨k + 1, by omega, extract_string HD.out (by simp), by rw [HC.out, show (t.take (k + 1)).length = k + 1 from by simp; omega]; exact hown', hb2⟩
      case measure => simp [strLen, Lib.size_eq]; omega
    · obtain rfl : k = t.length := by omega
      rw [List.drop_length, List.take_length] at *
      have hcv := conv_own hown
      have he : (Wd.body ([] : List UInt8)) = [] := rfl
      rw [he]
      obtain ⟨a, cap, rfl⟩ := own_shape hown
      clear he
      go_wp2_with fail
      go_ret2
      exact ⟨rfl, hb⟩

theorem suf_some (s : ByteArray) (c : UInt8) (hs : s.size ≤ 9223372036854775807) (w : World) :
    Calls Tryd.prog 52 #[.string s, .string { data := #[c] }] w fun e w' => ∃ r b, e = .returned (.tuple #[.string r, .bool b]) ∧ w = w' := by
  refine (Tryd.strings_CutSuffix _ _ w hs).mono ?_
  rintro e w' ⟨rfl, rfl⟩
  exact ⟨_, _, rfl, rfl⟩

set_option maxHeartbeats 400000 in
theorem unq_no1 (s : ByteArray) (hs : s.size ≤ 1000000) (h : s.data.toList.head? ≠ some 34) (w : World) :
    Calls Tryd.prog 43 #[.string s] w fun e w' => e = .returned (.tuple #[.string ⟨#[]⟩, .int .i64 3]) ∧ w = w' := by
  have H := Lib.hid h; clear h
  go_enter Tryd.func43, Tryd.ntmps43
  go_wp2_with (first | (go_at_call 49; refine (cut_no _ 34 H.out _).mono ?_; rintro e w' ⟨rfl, rfl⟩) | (go_at_call 52; refine (suf_some _ 34 (by omega) _).mono ?_; rintro e w' ⟨r, b, rfl, rfl⟩))
  go_ret2
  exact ⟨rfl, rfl⟩

set_option maxHeartbeats 400000 in
theorem unq_no2 (s : ByteArray) (hs : s.size ≤ 1000000) (r : List UInt8) (h : s.data.toList = 34 :: r) (hr : ∀ x, r ≠ x ++ [34]) (w : World) :
    Calls Tryd.prog 43 #[.string s] w fun e w' => e = .returned (.tuple #[.string ⟨#[]⟩, .int .i64 3]) ∧ w = w' := by
  have hl := size_list h
  have hrl : r.length ≤ 1000000 := by simp at hl; omega
  have H := Lib.hid h; have HR := Lib.hid hr; clear h hr hl
  go_enter Tryd.func43, Tryd.ntmps43
  go_wp2_with (first | (go_at_call 49; refine (cut_yes _ 34 r H.out _).mono ?_; rintro e w' ⟨rfl, rfl⟩) | (go_at_call 52; refine (suf_no _ 34 (by simpa using HR.out) (by simp [Lib.size_eq]; omega) _).mono ?_; rintro e w' ⟨rfl, rfl⟩))
  go_ret2
  exact ⟨rfl, rfl⟩

set_option maxHeartbeats 1000000 in
theorem unq_no3 (s : ByteArray) (hs : s.size ≤ 1000000) (y : List UInt8) (hy : s.data.toList = 34 :: (y ++ [34])) (h : ∀ t, t.length ≤ 200 → Wd.quote t ≠ s.data.toList) (w : World) :
    Calls Tryd.prog 43 #[.string s] w fun e w' => e = .returned (.tuple #[.string ⟨#[]⟩, .int .i64 3]) ∧ Below w.heap.size w w' := by
  obtain ⟨i0, hi, hz0, hz1, hz2⟩ := info_parts info_u8
  have hl := size_list hy
  have hyl : y.length ≤ 1000000 := by simp at hl; omega
  have HY := Lib.hid hy; have HH := Lib.hid h; clear hy h hl
  go_enter Tryd.func43, Tryd.ntmps43
  go_wp2_with (first | (go_at_call 49; refine (cut_yes _ 34 (y ++ [34]) HY.out _).mono ?_; rintro e w' ⟨rfl, rfl⟩) | (go_at_call 52; refine (suf_yes _ 34 y (by simp) (by simp [Lib.size_eq]; omega) _).mono ?_; rintro e w' ⟨rfl, rfl⟩))
  go_loopw [4, 7] (fun r v wr => ∃ x text : List UInt8, r = .string ⟨x.toArray⟩ ∧ x.length ≤ y.length ∧ y = Wd.body text ++ x ∧ text.length ≤ 200 ∧ wr.ownsRow w.heap.size 5 1 v text.length (Lib.byteCells text) ∧ Below w.heap.size w wr) (fun r _ _ => strLen r)
  case atStart => exact ⟨y, [], rfl, Nat.le_refl _, rfl, by simp, World.ownsRow_nil _ _ _ _, Below.refl _ _⟩
  case round =>
    obtain ⟨x, text, rfl, hxy, hyx, htl, hown, hb⟩ := hrel
    have HX := Lib.hid hyx; clear hyx
    have hbs := hb.size
    by_cases hx0 : x = []
    · exfalso
      refine HH.out text htl ?_
      have := HX.out
      rw [hx0, List.append_nil] at this
      rw [HY.out, this]; rfl
    have hxe : x.isEmpty = false := by
      cases hc : x with
      | nil => exact absurd hc hx0
      | cons a r => rfl
    have hxp : 0 < x.length := List.length_pos_iff.2 hx0
    obtain ⟨a, cap, rfl⟩ := own_shape hown
    by_cases hq : ∃ c r, x = Wd.qb c ++ r
    · obtain ⟨c, r, hcr⟩ := hq
      have hql := Wd.qb_len c
      obtain ⟨m, hm⟩ : ∃ m, m = (Wd.qb c).length := ⟨_, rfl⟩
      have hxl : m + r.length = x.length := by rw [hcr, hm]; simp
      have hdrop : x.drop m = r := by rw [hcr, hm]; simp
      have hm1 : 1 ≤ m := by omega
      have hm3 : m ≤ 3 := by omega
      have hm0 : ((m : Int) == 0) = false := by rw [beq_eq_false_iff_ne]; omega
      have fq := fq_yes ⟨x.toArray⟩ c r (by simpa using hcr)
      rw [← hm] at fq
      have hy2 : y = Wd.body (text ++ [c]) ++ r := by rw [HX.out, hcr, Wd.body_append]; simp [Wd.body]
      have hcells : Lib.byteCells (text ++ [c]) = Lib.byteCells text ++ [.int .u8 (c.toNat : Int)] := by simp [Lib.byteCells]
      have hxm : m ≤ x.length := by omega
      have hrx : r.length < x.length := by omega
      have FQ := Lib.hid fq; have HD := Lib.hid hdrop; have HC := Lib.hid hcells; have HY2 := Lib.hid hy2
      clear hm fq hdrop hcells hql hcr hy2 hx0 hxl
      by_cases hfull : text.length = 200
      · have hk2 : ((text.length : Int) == 200) = true := by rw [beq_iff_eq]; omega
        clear hfull
        go_wp2_with (go_at_call 53; refine (FQ.out _).mono ?_; rintro e w' ⟨rfl, rfl⟩)
        go_ret2
        exact ⟨rfl, hb⟩
      · have hk2 : ((text.length : Int) == 200) = false := by rw [beq_eq_false_iff_ne]; omega
        have htl2 : text.length < 200 := by omega
        clear hfull htl
        go_wp2_with (first | (go_at_call 53; refine (FQ.out _).mono ?_; rintro e w' ⟨rfl, rfl⟩) | (at_builtin; refine wpList_append_own _ rfl _ _ 22 rfl w.heap.size 5 i0 (.int .u8 0) 1 1 Tryd.underlying22 hi hz0 hz1 hz2 rfl (by decide) _ _ _ rfl (hown.alloc _) ⟨wr.heap.size, 0, none⟩ 1 1 [.int .u8 (c.toNat : Int)] rfl rfl ?c1 ?c2 ?c3 ?c4 ?c5 ?_))
        case c1 => exact cell_one_new _ _ _
        case c2 => intro u hu; simp at hu; subst hu; rfl
        case c3 => unfold maxLen; omega
        case c4 => omega
        case c5 => simp; omega
        intro v' w1 hown' hg _
        have hb2 := (hb.alloc hbs _).grown hg (by simp; omega) (fun k hk => (hown.lt k hk).1)
        go_wp2
        go_roundw
        case rel => exact ⟨r, text ++ [c], extract_string HD.out (by simp), by omega, HY2.out, by simp; omega, by rw [HC.out, show (text ++ [c]).length = text.length + 1 from by simp]; exact hown', hb2⟩
        case measure => simp [strLen, Lib.size_eq]; omega
    · have fq := fq_no ⟨x.toArray⟩ (by simpa [Lib.size_eq] using hxp) (by intro c r e; exact hq ⟨c, r, by simpa using e⟩)
      have FQ := Lib.hid fq
      clear fq hq hx0
      go_wp2_with (go_at_call 53; refine (FQ.out _).mono ?_; rintro e w' ⟨rfl, rfl⟩)
      go_ret2
      exact ⟨rfl, hb⟩

/-- WHERE s IS NO LITERAL OF A STRING OF AT MOST 200 BYTES. -/
theorem unq_no (s : ByteArray) (hs : s.size ≤ 1000000) (h : ∀ t, t.length ≤ 200 → Wd.quote t ≠ s.data.toList) (w : World) :
    Calls Tryd.prog 43 #[.string s] w fun e w' => e = .returned (.tuple #[.string ⟨#[]⟩, .int .i64 3]) ∧ Below w.heap.size w w' := by
  by_cases h1 : ∃ r, s.data.toList = 34 :: r
  · obtain ⟨r, hr⟩ := h1
    by_cases h2 : ∃ y, r = y ++ [34]
    · obtain ⟨y, rfl⟩ := h2
      exact unq_no3 s hs y hr h w
    · refine (unq_no2 s hs r hr (fun x e => h2 ⟨x, e⟩) w).mono ?_
      rintro e w' ⟨rfl, rfl⟩
      exact ⟨rfl, Below.refl _ _⟩
  · refine (unq_no1 s hs (by
      cases hd : s.data.toList with
      | nil => simp
      | cons a r => simp; rintro rfl; exact h1 ⟨r, hd⟩) w).mono ?_
    rintro e w' ⟨rfl, rfl⟩
    exact ⟨rfl, Below.refl _ _⟩
end Go.Proofs.YthiifacfkeibbaaDoor
