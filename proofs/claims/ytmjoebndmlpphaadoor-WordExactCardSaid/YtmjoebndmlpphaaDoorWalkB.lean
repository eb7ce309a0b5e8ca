/- Walks: plain, appendQuoted, Quote. -/
import Derived.Test.YtmjoebndmlpphaaDoorWalkA
import Derived.Lib.BufferRead
import Derived.Deep.RegionLaw
import Derived.Deep.AppendLies
namespace Go.Proofs.YtmjoebndmlpphaaDoor
open Go Go.RowKit

theorem info_u8 : (Tryd.prog.info? 5).map (fun i => (i.zero, i.size, i.bytes)) = some (some (.int .u8 0), 1, 1) := by kernel_rfl

set_option maxHeartbeats 400000 in
theorem plain_any (c : Int) (w : World) :
    Calls Tryd.prog 39 #[.int .u8 c] w fun e w' => e = .returned (.bool (Wd.plainI c)) ∧ w = w' := by
  go_enter Tryd.func39, Tryd.ntmps39
  go_wp2
  all_goals go_ret
  all_goals exact ⟨ret_bool (by rw [Bool.eq_iff_iff]; simp [Wd.plainI, *] <;> omega), rfl⟩

/-- 'string(b)' of a row of the call's own. -/
theorem conv_own {B : Nat} {v : Value} {l : List UInt8} {w : World} (hown : w.ownsRow B 5 1 v l.length (Lib.byteCells l)) :
    (convert 33 9 v).run Tryd.prog w = .ok (.string ⟨l.toArray⟩) w := by
  obtain ⟨_, h⟩ := hown
  rcases h with ⟨rfl, h0⟩ | ⟨g, cap, cur, rfl, _, hg, _, _, _, htake⟩
  · obtain rfl : l = [] := List.eq_nil_of_length_eq_zero h0
    exact Lib.run_convert_nil_bytes w _ _ 5 0 Tryd.underlying33 Tryd.underlying5 Tryd.underlying9
  · exact run_convert_bytes_back w _ _ 5 _ _ l Tryd.underlying33 Tryd.underlying5 Tryd.underlying9 (Lib.bytes_of_row hg (by simpa using htake))

theorem cells3 (w : World) (a b c : Value) (t : TypeId) : ∀ j u, [a, b, c][j]? = some u → (w.alloc (.cells #[a, b, c] t)).cell? ((⟨w.heap.size, 0, none⟩ : Addr).add j) = some u := by
  intro j u hj
  match j, hj with
  | 0, hj => simp at hj; subst hj; simp [Addr.add]
  | 1, hj => simp at hj; subst hj; simp [Addr.add]
  | 2, hj => simp at hj; subst hj; simp [Addr.add]
  | j + 3, hj => simp at hj

set_option maxHeartbeats 400000 in
theorem app_plain (B : Nat) (v : Value) (xs : List UInt8) (c : UInt8) (w : World) (hB : B ≤ w.heap.size) (hown : w.ownsRow B 5 1 v xs.length (Lib.byteCells xs)) (hlim : xs.length ≤ 1000) (hp : Wd.plainI (c.toNat : Int) = true) :
    Calls Tryd.prog 25 #[v, .int .u8 c.toNat] w fun e w' => ∃ v', e = .returned v' ∧ w'.ownsRow B 5 1 v' (xs ++ Wd.qb c).length (Lib.byteCells (xs ++ Wd.qb c)) ∧ Below B w w' := by
  obtain ⟨i0, hi, hz0, hz1, hz2⟩ := info_parts info_u8
  have e1 : (xs ++ Wd.qb c).length = xs.length + 1 := by simp [Wd.qb, show Wd.plain c = true from hp]
  have e2 : Lib.byteCells (xs ++ Wd.qb c) = Lib.byteCells xs ++ [.int .u8 (c.toNat : Int)] := by simp [Wd.qb, show Wd.plain c = true from hp, Lib.byteCells]
  rw [e1, e2]
  clear e1 e2
  have hlt : (c.toNat : Int) < 256 := by have := c.toNat_lt; omega
  go_enter Tryd.func25, Tryd.ntmps25
  go_wp2_with (first | (go_at_call 39; refine (plain_any _ _).mono ?_; rintro e w' ⟨rfl, rfl⟩) | (at_builtin; refine wpList_append_own _ rfl _ _ 33 rfl B 5 i0 (.int .u8 0) 1 1 Tryd.underlying33 hi hz0 hz1 hz2 rfl (by decide) _ _ _ rfl (hown.alloc _) ⟨w.heap.size, 0, none⟩ 1 1 [.int .u8 (c.toNat : Int)] rfl rfl ?c1 ?c2 ?c3 ?c4 ?c5 ?_))
  case c1 => exact cell_one_new _ _ _
  case c2 => intro u hu; simp at hu; subst hu; rfl
  case c3 => unfold maxLen; omega
  case c4 => omega
  case c5 => simp; omega
  intro v' w1 hown' hg _
  go_wp2
  go_ret
  exact ⟨_, rfl, hown', ((Below.refl _ _).alloc hB _).grown hg (by simp; omega) (fun k hk => (hown.lt k hk).1)⟩

theorem hex_at (n : Nat) (h : n < 16) : ∀ w : World, (Instr.index 9 (.string { data := #[48, 49, 50, 51, 52, 53, 54, 55, 56, 57, 97, 98, 99, 100, 101, 102] }) (.int .u8 (n : Int))).run Tryd.prog w = .ok (.int .u8 ((Wd.hexAt n).toNat : Int)) w :=
  match n, h with
  | 0, _ => fun _ => by kernel_rfl
  | 1, _ => fun _ => by kernel_rfl
  | 2, _ => fun _ => by kernel_rfl
  | 3, _ => fun _ => by kernel_rfl
  | 4, _ => fun _ => by kernel_rfl
  | 5, _ => fun _ => by kernel_rfl
  | 6, _ => fun _ => by kernel_rfl
  | 7, _ => fun _ => by kernel_rfl
  | 8, _ => fun _ => by kernel_rfl
  | 9, _ => fun _ => by kernel_rfl
  | 10, _ => fun _ => by kernel_rfl
  | 11, _ => fun _ => by kernel_rfl
  | 12, _ => fun _ => by kernel_rfl
  | 13, _ => fun _ => by kernel_rfl
  | 14, _ => fun _ => by kernel_rfl
  | 15, _ => fun _ => by kernel_rfl
  | _ + 16, h => absurd h (by omega)
theorem and15 : ∀ n : Fin 256, bits .and .u8 (n.val : Int) 15 = (n.val : Int) % 16 := by decide +kernel

set_option maxHeartbeats 400000 in
theorem app_hex (B : Nat) (v : Value) (xs : List UInt8) (c : UInt8) (w : World) (hB : B ≤ w.heap.size) (hown : w.ownsRow B 5 1 v xs.length (Lib.byteCells xs)) (hlim : xs.length ≤ 1000) (hp : Wd.plainI (c.toNat : Int) = false) :
    Calls Tryd.prog 25 #[v, .int .u8 c.toNat] w fun e w' => ∃ v', e = .returned v' ∧ w'.ownsRow B 5 1 v' (xs ++ Wd.qb c).length (Lib.byteCells (xs ++ Wd.qb c)) ∧ Below B w w' := by
  obtain ⟨i0, hi, hz0, hz1, hz2⟩ := info_parts info_u8
  have e1 : (xs ++ Wd.qb c).length = xs.length + 3 := by simp [Wd.qb, show Wd.plain c = false from hp]
  have e2 : Lib.byteCells (xs ++ Wd.qb c) = Lib.byteCells xs ++ [.int .u8 92, .int .u8 ((Wd.hexAt (c.toNat / 16)).toNat : Int), .int .u8 ((Wd.hexAt (c.toNat % 16)).toNat : Int)] := by simp [Wd.qb, show Wd.plain c = false from hp, Lib.byteCells]
  rw [e1, e2]
  clear e1 e2
  have hlt : (c.toNat : Int) < 256 := by have := c.toNat_lt; omega
  have hx1 := hex_at (c.toNat / 16) (by have := c.toNat_lt; omega)
  have hx2 := hex_at (c.toNat % 16) (by omega)
  rw [show ((c.toNat / 16 : Nat) : Int) = (c.toNat : Int) / 16 from by omega] at hx1
  rw [show ((c.toNat % 16 : Nat) : Int) = (c.toNat : Int) % 16 from by omega] at hx2
  have hb := and15 ⟨c.toNat, c.toNat_lt⟩
  simp only [] at hb
  go_enter Tryd.func25, Tryd.ntmps25
  go_wp2_with (go_at_call 39; refine (plain_any _ _).mono ?_; rintro e w' ⟨rfl, rfl⟩)
  go_region_law (first | (refine step_append_lies _ ?_ (.tmp 11) (.tmp 18) 33 ?_ B 5 i0 (.int .u8 0) 1 1 Tryd.underlying33 hi hz0 hz1 hz2 ?_ ?_ v xs.length (Lib.byteCells xs) ?_ ?_ ⟨w.heap.size, 0, none⟩ 3 3 [.int .u8 92, .int .u8 ((Wd.hexAt (c.toNat / 16)).toNat : Int), .int .u8 ((Wd.hexAt (c.toNat % 16)).toNat : Int)] ?_ ?_ ?_ ?_ ?_ ?_ ?_ ?_ (w.heap.size + 1) ?_ ?_; (· rfl); (· rfl); (· rfl); (· decide); (· rfl); (· exact hown.alloc _); (· rfl); (· rfl); (· exact cells3 w _ _ _ _); (· intro u hu; simp at hu; rcases hu with rfl | rfl | rfl <;> rfl); (· decide); (· unfold maxLen; omega); (· omega); (· simp; omega); (· simp); intro g cap w' h1 h2 h3 h4))
  all_goals
    go_wp2
    go_ret
    exact ⟨_, rfl, by assumption, (((Below.refl _ _).alloc hB _).drew).grown (by assumption) (by simp; omega) (fun k hk => (hown.lt k hk).1)⟩

theorem appendQuoted_any (B : Nat) (v : Value) (xs : List UInt8) (c : UInt8) (w : World) (hB : B ≤ w.heap.size) (hown : w.ownsRow B 5 1 v xs.length (Lib.byteCells xs)) (hlim : xs.length ≤ 1000) :
    Calls Tryd.prog 25 #[v, .int .u8 c.toNat] w fun e w' => ∃ v', e = .returned v' ∧ w'.ownsRow B 5 1 v' (xs ++ Wd.qb c).length (Lib.byteCells (xs ++ Wd.qb c)) ∧ Below B w w' := by
  cases hp : Wd.plainI (c.toNat : Int)
  · exact app_hex B v xs c w hB hown hlim hp
  · exact app_plain B v xs c w hB hown hlim hp

set_option maxHeartbeats 400000 in
theorem quote_big (s : ByteArray) (hs : 200 < s.size) (w : World) :
    Calls Tryd.prog 11 #[.string s] w fun e w' => e = .returned (.tuple #[.string ⟨#[]⟩, .int .i64 2]) ∧ w = w' := by
  go_enter Tryd.func11, Tryd.ntmps11
  go_wp2_with fail
  go_ret2
  exact ⟨rfl, rfl⟩

set_option maxHeartbeats 400000 in
theorem quote_any (s : ByteArray) (hs : s.size ≤ 200) (w : World) :
    Calls Tryd.prog 11 #[.string s] w fun e w' => e = .returned (.tuple #[.string ⟨(Wd.quote s.data.toList).toArray⟩, .int .i64 0]) ∧ Below w.heap.size w w' := by
  obtain ⟨i0, hi, hz0, hz1, hz2⟩ := info_parts info_u8
  have hl : s.data.toList.length = s.size := by simp
  have HL := Lib.hid hl; clear hl
  go_enter Tryd.func11, Tryd.ntmps11
  go_wp2_with fail
  go_loopw [4, 12] (fun v i wr => ∃ k : Nat, k ≤ s.size ∧ i = .int .i64 k ∧ wr.ownsRow w.heap.size 5 1 v (Wd.qpre s.data.toList k).length (Lib.byteCells (Wd.qpre s.data.toList k)) ∧ Below w.heap.size w wr) (fun _ i _ => s.size - (intOf i).toNat)
  case atStart => exact ⟨0, Nat.zero_le _, rfl, World.ownsRow_lit w #[.int .u8 34] 1 (Nat.le_refl _) (by decide) rfl, (Below.refl _ _).alloc (Nat.le_refl _) _⟩
  case round =>
    obtain ⟨k, hk, rfl, hown, hb⟩ := hrel
    have hq := Wd.qpre_len s.data.toList k
    rw [HL.out] at hq
    have hbs := hb.size
    by_cases hlt : k < s.size
    · have hs1 := Wd.qpre_succ s.data.toList k (by rw [HL.out]; exact hlt)
      have HS := Lib.hid hs1; clear hs1
      go_wp2_with (go_at_call 25; refine (appendQuoted_any w.heap.size _ _ s[k] _ hbs hown (by omega)).mono ?_; rintro e w1 ⟨v1, rfl, hown1, hb1⟩)
      go_roundw
      case rel => exact ⟨k + 1, by omega, by go_num, by rw [HS.out]; exact hown1, hb.trans hb1⟩
      case measure => simp [intOf]; omega
    · have hfin := Wd.qpre_all s.data.toList k (by rw [HL.out]; omega)
      have HF := Lib.hid hfin; clear hfin
      go_wp2_with (at_builtin; refine wpList_append_own _ rfl _ _ 33 rfl w.heap.size 5 i0 (.int .u8 0) 1 1 Tryd.underlying33 hi hz0 hz1 hz2 rfl (by decide) _ _ _ rfl (hown.alloc _) ⟨wr.heap.size, 0, none⟩ 1 1 [.int .u8 34] rfl rfl ?c1 ?c2 ?c3 ?c4 ?c5 ?_)
      case c1 => exact cell_one_new _ _ _
      case c2 => intro u hu; simp at hu; subst hu; rfl
      case c3 => unfold maxLen; omega
      case c4 => omega
      case c5 => simp; omega
      intro v' w1 hown' hg _
      have hown2 : w1.ownsRow w.heap.size 5 1 v' (Wd.qpre s.data.toList k ++ [34]).length (Lib.byteCells (Wd.qpre s.data.toList k ++ [34])) := by
        simpa [Lib.byteCells] using hown'
      rw [HF.out] at hown2
      have hcv := conv_own hown2
      clear hown' hown2
      go_wp2
      go_ret2
      exact ⟨rfl, (hb.alloc hbs _).grown hg (by simp; omega) (fun k hk => (hown.lt k hk).1)⟩
end Go.Proofs.YtmjoebndmlpphaaDoor
