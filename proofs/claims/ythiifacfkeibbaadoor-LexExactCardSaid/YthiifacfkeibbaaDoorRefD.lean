/- Walks: the page's own answers: hexOf, Long, Quote. -/
import Derived.Test.YthiifacfkeibbaaDoorRefC
import Derived.Test.YthiifacfkeibbaaDoorWalkE
namespace Go.Proofs.YthiifacfkeibbaaDoor
open Go Go.RowKit
open Go.Proofs

theorem hex_at (n : Nat) (h : n < 16) : ∀ w : World, (Instr.index 9 (.string { data := #[48, 49, 50, 51, 52, 53, 54, 55, 56, 57, 97, 98, 99, 100, 101, 102] }) (.int .u8 (n : Int))).run Tryd.prog w = .ok (.int .u8 ((Wd.hexAt n).toNat : Int)) w :=
  match n, h with
  | 0, _ => fun _ => by kernel_rfl
  | 1, _ => fun _ => by kernel_rfl
  | 2, _ => fun _ => by kernel_rfl
  | 3, _ => fun _ => by kernel_rfl
  | 4, _ => fun _ => by kernel_rfl
  | 5, _ => fun _ => by kernel_rfl
  | 6, _ => fun _ => by kernel_rfl
  | 7, _ => fun _ => by kernel_rfl
  | 8, _ => fun _ => by kernel_rfl
  | 9, _ => fun _ => by kernel_rfl
  | 10, _ => fun _ => by kernel_rfl
  | 11, _ => fun _ => by kernel_rfl
  | 12, _ => fun _ => by kernel_rfl
  | 13, _ => fun _ => by kernel_rfl
  | 14, _ => fun _ => by kernel_rfl
  | 15, _ => fun _ => by kernel_rfl
  | _ + 16, h => absurd h (by omega)
theorem and15 : ∀ n : Fin 256, bits .and .u8 (n.val : Int) 15 = (n.val : Int) % 16 := by decide +kernel

theorem hex_at_i (n : Nat) (h : n < 16) : ∀ w : World, (Instr.index 9 (.string { data := #[48, 49, 50, 51, 52, 53, 54, 55, 56, 57, 97, 98, 99, 100, 101, 102] }) (.int .i64 (n : Int))).run Tryd.prog w = .ok (.int .u8 ((Wd.hexAt n).toNat : Int)) w :=
  match n, h with
  | 0, _ => fun _ => by kernel_rfl
  | 1, _ => fun _ => by kernel_rfl
  | 2, _ => fun _ => by kernel_rfl
  | 3, _ => fun _ => by kernel_rfl
  | 4, _ => fun _ => by kernel_rfl
  | 5, _ => fun _ => by kernel_rfl
  | 6, _ => fun _ => by kernel_rfl
  | 7, _ => fun _ => by kernel_rfl
  | 8, _ => fun _ => by kernel_rfl
  | 9, _ => fun _ => by kernel_rfl
  | 10, _ => fun _ => by kernel_rfl
  | 11, _ => fun _ => by kernel_rfl
  | 12, _ => fun _ => by kernel_rfl
  | 13, _ => fun _ => by kernel_rfl
  | 14, _ => fun _ => by kernel_rfl
  | 15, _ => fun _ => by kernel_rfl
  | _ + 16, h => absurd h (by omega)

set_option maxHeartbeats 1000000 in
theorem rhex_any (c : UInt8) (w : World) :
    Calls Tryd.prog 45 #[.int .u8 (c.toNat : Int)] w fun e w' => e = .returned (.int .i64 (hexIx c)) ∧ w = w' := by
  obtain ⟨q, hq⟩ : ∃ q, hexIx c = q := ⟨_, rfl⟩
  rw [hq]
  have hcs : (q = -1 ∧ ∀ j, j < 16 → Wd.hexAt j ≠ c) ∨ ∃ k : Nat, k < 16 ∧ q = (k : Int) ∧ Wd.hexAt k = c ∧ ∀ j, j < k → Wd.hexAt j ≠ c := by
    have hof : ∀ j, j < 16 → Wd.hexAt j = c → q = (j : Int) := by
      intro j hj e
      rw [← hq, ← e]; exact hexIx_of ⟨j, hj⟩
    rcases hexIx_cases c with h | ⟨k, hk, h, e⟩
    · refine Or.inl ⟨by rw [← hq]; exact h, fun j hj e => ?_⟩
      have := hof j hj e
      rw [← hq, h] at this; omega
    · refine Or.inr ⟨k, hk, by rw [← hq]; exact h, e, fun j hj e2 => ?_⟩
      have := hof j (by omega) e2
      rw [← hq, h] at this; omega
  have HC := Lib.hid hcs; clear hcs hq
  have hne : ∀ j : Nat, Wd.hexAt j ≠ c → (((Wd.hexAt j).toNat : Int) == (c.toNat : Int)) = false := by
    intro j h
    rw [beq_eq_false_iff_ne]; intro e
    exact h (UInt8.toNat_inj.1 (by omega))
  have HNE := Lib.hid hne; clear hne
  rcases HC.out with ⟨hq, hno⟩ | ⟨k0, hk0, hq, he, hno⟩
  · have HNO := Lib.hid hno; have HQ := Lib.hid hq; clear hno hq HC
    generalize hcc : (c.toNat : Int) = cv at *
    go_enter Tryd.func45, Tryd.ntmps45
    go_wp2_with fail
    go_loop [3] (fun i => ∃ k : Nat, k ≤ 16 ∧ i = .int .i64 k) (fun i => 16 - (intOf i).toNat)
    case atStart => exact ⟨0, Nat.zero_le _, rfl⟩
    case round =>
      obtain ⟨k, hk, rfl⟩ := hrel
      by_cases hlt : k < 16
      · have hi := hex_at_i k hlt
        have hb := HNE.out k (HNO.out k hlt)
        go_wp2_with fail
        go_round
        case rel => exact ⟨k + 1, by omega, by go_num⟩
        case measure => simp [intOf]; omega
      · go_wp2_with fail
        go_ret
        exact ⟨by rw [HQ.out]; rfl, rfl⟩
  · have HNO := Lib.hid hno; have HQ := Lib.hid hq
    have hbt : (((Wd.hexAt k0).toNat : Int) == (c.toNat : Int)) = true := by rw [beq_iff_eq, he]
    clear hno hq HC he
    generalize hcc : (c.toNat : Int) = cv at *
    go_enter Tryd.func45, Tryd.ntmps45
    go_wp2_with fail
    go_loop [3] (fun i => ∃ k : Nat, k ≤ k0 ∧ i = .int .i64 k) (fun i => 16 - (intOf i).toNat)
    case atStart => exact ⟨0, Nat.zero_le _, rfl⟩
    case round =>
      obtain ⟨k, hk, rfl⟩ := hrel
      by_cases hlt : k < k0
      · have hi := hex_at_i k (by omega)
        have hb := HNE.out k (HNO.out k hlt)
        clear hbt
        go_wp2_with fail
        go_round
        case rel => exact ⟨k + 1, by omega, by go_num⟩
        case measure => simp [intOf]; omega
      · obtain rfl : k = k0 := by omega
        have hi := hex_at_i k (by omega)
        go_wp2_with fail
        go_ret
        exact ⟨by rw [HQ.out]; rfl, rfl⟩

theorem app1 {B : Nat} {v : Value} {xs : List UInt8} {c : UInt8} {w1 : World} (h : w1.ownsRow B 5 1 v (xs.length + 1) (Lib.byteCells xs ++ [.int .u8 (c.toNat : Int)])) :
    w1.ownsRow B 5 1 v (xs ++ [c]).length (Lib.byteCells (xs ++ [c])) := by
  have e1 : (xs ++ [c]).length = xs.length + 1 := by simp
  have e2 : Lib.byteCells (xs ++ [c]) = Lib.byteCells xs ++ [.int .u8 (c.toNat : Int)] := by simp [Lib.byteCells]
  rw [e1, e2]; exact h

set_option maxRecDepth 100000 in
set_option maxHeartbeats 2000000 in
theorem rlong_any (l : List UInt8) (hl : l.length ≤ 20000) (w : World) :
    Calls Tryd.prog 22 #[.string ⟨l.toArray⟩] w fun e w' => e = .returned (.string ⟨(Wd.quote l).toArray⟩) ∧ Below w.heap.size w w' := by
  obtain ⟨i0, hi, hz0, hz1, hz2⟩ := info_parts info_u8
  have hix := idx l
  have HIX := Lib.hid hix; clear hix
  go_enter Tryd.func22, Tryd.ntmps22
  go_wp2_with fail
  go_loopw [3, 4] (fun v i wr => ∃ k : Nat, k ≤ l.length ∧ i = .int .i64 k ∧ wr.ownsRow w.heap.size 5 1 v (Wd.qpre l k).length (Lib.byteCells (Wd.qpre l k)) ∧ Below w.heap.size w wr) (fun _ i _ => l.length - (intOf i).toNat)
  case atStart => exact ⟨0, Nat.zero_le _, rfl, World.ownsRow_lit w #[.int .u8 34] 1 (Nat.le_refl _) (by decide) rfl, (Below.refl _ _).alloc (Nat.le_refl _) _⟩
  case round =>
    obtain ⟨k, hk, rfl, hown, hb⟩ := hrel
    have hq := Wd.qpre_len l k
    have hbs := hb.size
    by_cases hlt : k < l.length
    · have hi1 := HIX.out k hlt
      have hs1 := Wd.qpre_succ l k hlt
      have HS := Lib.hid hs1; clear hs1
      have hlt256 : ((l[k]).toNat : Int) < 256 := by have := (l[k]).toNat_lt; omega
      cases hp : Wd.plainI ((l[k]).toNat : Int)
      · have e1 : (Wd.qpre l k ++ Wd.qb l[k]).length = (Wd.qpre l k).length + 3 := by simp [Wd.qb, show Wd.plain l[k] = false from hp]
        have e2 : Lib.byteCells (Wd.qpre l k ++ Wd.qb l[k]) = Lib.byteCells (Wd.qpre l k) ++ [.int .u8 92, .int .u8 ((Wd.hexAt ((l[k]).toNat / 16)).toNat : Int), .int .u8 ((Wd.hexAt ((l[k]).toNat % 16)).toNat : Int)] := by simp [Wd.qb, show Wd.plain l[k] = false from hp, Lib.byteCells]
        have hx1 := hex_at ((l[k]).toNat / 16) (by have := (l[k]).toNat_lt; omega)
        have hx2 := hex_at ((l[k]).toNat % 16) (by omega)
        rw [show (((l[k]).toNat / 16 : Nat) : Int) = ((l[k]).toNat : Int) / 16 from by omega] at hx1
        rw [show (((l[k]).toNat % 16 : Nat) : Int) = ((l[k]).toNat : Int) % 16 from by omega] at hx2
        have hb15 := and15 ⟨(l[k]).toNat, (l[k]).toNat_lt⟩
        simp only [] at hb15
        have hcase : ((l[k]).toNat : Int) < 32 ∨ 126 < ((l[k]).toNat : Int) ∨ ((((l[k]).toNat : Int) != 34) = false ∧ 32 ≤ ((l[k]).toNat : Int) ∧ ((l[k]).toNat : Int) ≤ 126) ∨ ((((l[k]).toNat : Int) != 34) = true ∧ (((l[k]).toNat : Int) != 92) = false ∧ 32 ≤ ((l[k]).toNat : Int) ∧ ((l[k]).toNat : Int) ≤ 126) := by
          simp only [Wd.plainI, Bool.and_eq_false_iff, decide_eq_false_iff_not] at hp
          by_cases a1 : ((l[k]).toNat : Int) < 32
          · exact Or.inl a1
          · by_cases a2 : 126 < ((l[k]).toNat : Int)
            · exact Or.inr (Or.inl a2)
            · cases a3 : (((l[k]).toNat : Int) != 34)
              · exact Or.inr (Or.inr (Or.inl ⟨rfl, by omega, by omega⟩))
              · refine Or.inr (Or.inr (Or.inr ⟨rfl, ?_, by omega, by omega⟩))
                rcases hp with ((h | h) | h) | h
                · omega
                · omega
                · rw [a3] at h; cases h
                · exact h
        have E1 := Lib.hid e1; have E2 := Lib.hid e2; have HCASE := Lib.hid hcase
        clear e1 e2 hp hcase
        generalize hvv : (l[k]).toNat = v at *
        clear hvv
        rcases HCASE.out with hc | hc | ⟨hc1, hc2, hc3⟩ | ⟨hc1, hc2, hc3, hc4⟩
        all_goals
          clear HCASE
          go_wp2_with fail
          go_region_law (first | (refine step_append_lies _ ?_ (.tmp 34) (.tmp 41) 22 ?_ w.heap.size 5 i0 (.int .u8 0) 1 1 Tryd.underlying22 hi hz0 hz1 hz2 ?_ ?_ u3 (Wd.qpre l k).length (Lib.byteCells (Wd.qpre l k)) ?_ ?_ ⟨wr.heap.size, 0, none⟩ 3 3 [.int .u8 92, .int .u8 ((Wd.hexAt (v / 16)).toNat : Int), .int .u8 ((Wd.hexAt (v % 16)).toNat : Int)] ?_ ?_ ?_ ?_ ?_ ?_ ?_ ?_ (wr.heap.size + 1) ?_ ?_; (· rfl); (· rfl); (· rfl); (· decide); (· rfl); (· exact hown.alloc _); (· rfl); (· rfl); (· exact cells3 wr _ _ _ _); (· intro u hu; simp at hu; rcases hu with rfl | rfl | rfl <;> rfl); (· decide); (· unfold maxLen; omega); (· omega); (· simp; omega); (· simp); intro g cap w' g1 g2 g3 g4))
          all_goals
            go_wp2
            go_roundw
            case rel => exact ⟨k + 1, by omega, by go_num, by rw [HS.out, E1.out, E2.out]; assumption, ((hb.alloc hbs _).drew).grown (by assumption) (by simp; omega) (fun k hk => (hown.lt k hk).1)⟩
            case measure => simp [intOf]; omega
      · have e1 : (Wd.qpre l k ++ Wd.qb l[k]).length = (Wd.qpre l k).length + 1 := by simp [Wd.qb, show Wd.plain l[k] = true from hp]
        have e2 : Lib.byteCells (Wd.qpre l k ++ Wd.qb l[k]) = Lib.byteCells (Wd.qpre l k) ++ [.int .u8 ((l[k]).toNat : Int)] := by simp [Wd.qb, show Wd.plain l[k] = true from hp, Lib.byteCells]
        have hp2 := hp
        simp only [Wd.plainI, Bool.and_eq_true, decide_eq_true_eq] at hp2
        obtain ⟨⟨⟨p1, p2⟩, p3⟩, p4⟩ := hp2
        have E1 := Lib.hid e1; have E2 := Lib.hid e2
        clear e1 e2 hp
        generalize hvv : ((l[k]).toNat : Int) = v at *
        clear hvv
        go_wp2_with (at_builtin; refine wpList_append_own _ rfl _ _ 22 rfl w.heap.size 5 i0 (.int .u8 0) 1 1 Tryd.underlying22 hi hz0 hz1 hz2 rfl (by decide) _ _ _ rfl (hown.alloc _) ⟨wr.heap.size, 0, none⟩ 1 1 [.int .u8 v] rfl rfl ?c1 ?c2 ?c3 ?c4 ?c5 ?_)
        case c1 => exact cell_one_new _ _ _
        case c2 => intro u hu; simp at hu; subst hu; rfl
        case c3 => unfold maxLen; omega
        case c4 => omega
        case c5 => simp; omega
        intro v' w1 hown' hg _
        go_wp2
        go_roundw
        case rel => exact ⟨k + 1, by omega, by go_num, by rw [HS.out, E1.out, E2.out]; exact hown', (hb.alloc hbs _).grown hg (by simp; omega) (fun k hk => (hown.lt k hk).1)⟩
        case measure => simp [intOf]; omega
    · have hfin := Wd.qpre_all l k (by omega)
      have HF := Lib.hid hfin; clear hfin
      go_wp2_with (at_builtin; refine wpList_append_own _ rfl _ _ 22 rfl w.heap.size 5 i0 (.int .u8 0) 1 1 Tryd.underlying22 hi hz0 hz1 hz2 rfl (by decide) _ _ _ rfl (hown.alloc _) ⟨wr.heap.size, 0, none⟩ 1 1 [.int .u8 34] rfl rfl ?d1 ?d2 ?d3 ?d4 ?d5 ?_)
      case d1 => exact cell_one_new _ _ _
      case d2 => intro u hu; simp at hu; subst hu; rfl
      case d3 => unfold maxLen; omega
      case d4 => omega
      case d5 => simp; omega
      intro v' w1 hown' hg _
      have hown2 : w1.ownsRow w.heap.size 5 1 v' (Wd.qpre l k ++ [34]).length (Lib.byteCells (Wd.qpre l k ++ [34])) := app1 hown'
      rw [HF.out] at hown2
      have hcv := conv_own hown2
      clear hown' hown2
      go_wp2
      go_ret
      exact ⟨rfl, (hb.alloc hbs _).grown hg (by simp; omega) (fun k hk => (hown.lt k hk).1)⟩

set_option maxHeartbeats 400000 in
theorem rquote_big (l : List UInt8) (hs : 200 < l.length) (hl : l.length ≤ 20000) (w : World) :
    Calls Tryd.prog 13 #[.string ⟨l.toArray⟩] w fun e w' => e = .returned (.tuple #[.string ⟨#[]⟩, .int .i64 2]) ∧ w = w' := by
  go_enter Tryd.func13, Tryd.ntmps13
  go_wp2_with fail
  go_ret2
  exact ⟨rfl, rfl⟩
set_option maxHeartbeats 400000 in
theorem rquote_any (l : List UInt8) (hs : l.length ≤ 200) (w : World) :
    Calls Tryd.prog 13 #[.string ⟨l.toArray⟩] w fun e w' => e = .returned (.tuple #[.string ⟨(Wd.quote l).toArray⟩, .int .i64 0]) ∧ Below w.heap.size w w' := by
  go_enter Tryd.func13, Tryd.ntmps13
  go_wp2_with (go_at_call 22; refine (rlong_any l (by omega) _).mono ?_; rintro e w1 ⟨rfl, hb1⟩)
  go_ret2
  exact ⟨rfl, hb1⟩
end Go.Proofs.YthiifacfkeibbaaDoor
