/- store.New: the store with its five first nodes. -/
import Derived.Test.YtaaapdfdedknfaaStH
namespace Go.Proofs.Ytaaapdfdedknfaa
open Go Go.RowKit
open Tp (T)
open Sg (Of Rt)
/-- The first nodes. -/
def lvs (k : Nat) : List SNd := (List.range k).map fun (i : Nat) => ⟨⟨((i : Nat) : Int) + 1, 0, 0, 0, 0⟩, i⟩
theorem lvs_succ (k : Nat) : lvs (k + 1) = lvs k ++ [⟨⟨(k : Int) + 1, 0, 0, 0, 0⟩, k⟩] := by unfold lvs; rw [List.range_succ, List.map_append]; rfl
theorem lvs_len (k : Nat) : (lvs k).length = k := by unfold lvs; simp
theorem lvs_of : ∀ k, Of (lvs k) (lvs k)
  | 0 => ⟨rfl, fun p g h hg => by simp [lvs] at hg⟩
  | k + 1 => by rw [lvs_succ]; exact (lvs_of k).snoc_own (by rw [lvs_len])
theorem row_box {B n : Nat} {w : World} {v : Value} {xs : List Value} {b : Nat} {A : Array Value} (h : w.ownsRow B 92 6 v n xs) (hb : w.heap[b]? = some (.cells A 89)) : v.ownBlock ≠ some b := row_far h hb store_no
theorem own_shapeN {B n sz : Nat} {e : TypeId} {w : World} {v : Value} {xs : List Value} (h : w.ownsRow B e sz v n xs) : ∃ a c, v = .slice a n c := by
  rcases h.2 with ⟨h1, h2⟩ | ⟨g, cap, cur, h1, _⟩
  · exact ⟨none, 0, by rw [h1, h2]⟩
  · exact ⟨_, _, h1⟩
def NewP (l : Int) (w : World) (e : Ending) (w' : World) : Prop := ∃ g cap, e = .returned (.pointer (some ⟨w.heap.size, 0, none⟩)) ∧ SV w.heap.size w.heap.size g cap (min (max l 0) 65536) 0 0 w' (lvs 5) ∧ Below w.heap.size w w'
set_option maxRecDepth 100000 in
set_option maxHeartbeats 4000000 in
theorem new12_any (l : Int) (w : World) : Calls Try.prog 16 #[.int .i64 l] w (NewP l w) := by
  obtain ⟨L, hL⟩ : ∃ L, (if 65536 < (if l < 0 then 0 else l) then 65536 else (if l < 0 then 0 else l)) = L := ⟨_, rfl⟩
  have hLm : min (max l 0) 65536 = L := by rw [← hL]; split <;> split <;> omega
  obtain ⟨W1, hW1⟩ : ∃ W, w.alloc (.cells #[.int .i64 L, .int .i64 0, .slice none 0 0, .int .i64 0] 89) = W := ⟨_, rfl⟩
  have hb1 : Below w.heap.size w W1 := by rw [← hW1]; exact (Below.refl _ _).alloc (Nat.le_refl _) _
  have hx1 : W1.heap[w.heap.size]? = some (.cells #[.int .i64 L, .int .i64 0, .slice none 0 0, .int .i64 0] 89) := by rw [← hW1]; exact World.alloc_heap_new w _
  have HL := Lib.hid hLm; have HW1 := Lib.hid hW1; have HB1 := Lib.hid hb1; have HX1 := Lib.hid hx1
  clear hW1 hb1 hx1 hLm
  go_enter Try.func16, Try.ntmps16
  go_upto_region 2 with fail
  rw [HW1.out]
  clear hL
  generalize (if l < 0 then (0 : Int) else l) = q6
  go_wp2_with fail
  go_loopg [4] 5 (fun gk v wr => ∃ (k : Nat) (v2 : Value), k ≤ 5 ∧ v = .int .i64 ((k : Int) + 1) ∧ wr.heap[w.heap.size]? = some (.cells #[.int .i64 L, .int .i64 0, v2, .int .i64 0] 89) ∧ wr.ownsRow w.heap.size 92 6 v2 k (Sg.ndRow (lvs k)) ∧ Below w.heap.size w wr ∧ gk = 5 - k)
  case atStart => exact ⟨0, .slice none 0 0, by omega, rfl, HX1.out, World.ownsRow_nil _ _ _ _, HB1.out, rfl⟩
  case round =>
    obtain ⟨k, v2, hk5, rfl, hbx, hown, hbw, rfl⟩ := hrel
    obtain ⟨av, cv, rfl⟩ := own_shapeN hown
    have c2 : wr.cell? ⟨w.heap.size, 2, none⟩ = some (.slice av k cv) := cell_box hbx rfl rfl
    have hsz : w.heap.size < wr.heap.size := (Array.getElem?_eq_some_iff.1 hbx).1
    have HBX := Lib.hid hbx; have HOWN := Lib.hid hown; have HBW := Lib.hid hbw
    clear hbx hown hbw HX1 HB1
    by_cases hlt : k < 5
    · have hw1 : wrap64 ((k : Int) + 1 - 1) = (k : Int) := by unfold wrap64; omega
      have hc := leaf12_any ((k : Int) + 1) wr.drew
      rw [hw1] at hc
      have HC := Lib.hid hc; clear hc hw1
      obtain ⟨i9, hi, hz0, hz1, hz2⟩ := info_parts info_nd
      obtain ⟨b1, b2⟩ := b48n (r := k) (by omega)
      have B1 := Lib.hid b1; have B2 := Lib.hid b2
      clear b1 b2
      go_upto_region 5 with fail
      go_region_law (first
        | (refine step_call ?_ 62 #[.tmp 20] #[3] ?_ #[.int .i64 ((k : Int) + 1)] ?_ ?_ HC.out (fun _ _ h => ⟨_, h.1⟩) ?_
           (· rfl)
           (· rfl)
           (· first | (simp [Act.eval]; done) | kernel_rfl)
           (· exact enters_of Try.func62 (by kernel_rfl) rfl)
           rintro _ w6 ⟨h1, rfl⟩
           injection h1 with h1
           subst h1)
        | (refine step_append_lies _ ?_ (.tmp 18) (.tmp 23) 87 ?_ w.heap.size 92 i9 (.agg #[.int .i64 0, .int .i64 0, .int .i64 0, .int .i64 0, .int .i64 0, .int .i64 0]) 6 48 Try.underlying87 hi hz0 hz1 hz2 ?_ ?_ (.slice av k cv) k (Sg.ndRow (lvs k)) ?_ ?_ ⟨wr.heap.size, 0, none⟩ 1 1 [.int .i64 ((k : Int) + 1), .int .i64 0, .int .i64 0, .int .i64 0, .int .i64 (k : Int), .int .i64 0] ?_ ?_ ?_ ?_ ?_ ?_ ?_ ?_ (wr.heap.size + 1) ?_ ?_; (· rfl); (· rfl); (· rfl); (· decide); (· rfl); (· exact HOWN.out.alloc _); (· rfl); (· rfl); (· exact World.news_of_block (World.alloc_heap_new wr _)); (· exact Sg.nd_one ⟨⟨(k : Int) + 1, 0, 0, 0, 0⟩, k⟩); (· decide); (· exact B2.out); (· exact B1.out); (· exact Nat.le_trans (Nat.le_of_lt hsz) (by simp)); (· simp); intro g1 cap1 w7 own1 gr1 ly1 lt1; (have gr1' := undrew gr1); (have hbs7 : w7.heap[w.heap.size]? = some (.cells #[.int .i64 L, .int .i64 0, .slice av k cv, .int .i64 0] 89) := (gr1'.block w.heap.size (by rw [World.size_alloc]; omega) (fun e => row_box HOWN.out HBX.out e.symm)).trans ((Below.heap_alloc _ _ _ hsz).trans HBX.out)); (have cs7 : w7.cell? ⟨w.heap.size, 2, none⟩ = some (.slice av k cv) := cell_box hbs7 rfl rfl); (have fs7 : w7.frozen? ⟨w.heap.size, 2, none⟩ = false := IsC.frozen ⟨_, _, hbs7⟩); (have HGR7 := Lib.hid gr1'); (have HOWN7 := Lib.hid own1); (have HBS7 := Lib.hid hbs7); clear gr1 gr1' own1 hbs7 ly1 lt1))
      all_goals
        have hlw : Below w.heap.size w (w7.setCell ⟨w.heap.size, 2, none⟩ (.slice (some ⟨g1, 0, none⟩) (k + 1) cap1)) := ((HBW.out.alloc HBW.out.size _).grown HGR7.out (Nat.le_trans HBW.out.size (by simp)) (fun z hz => (HOWN.out.lt z hz).1)).setCell (p := ⟨w.heap.size, 2, none⟩) (Nat.le_refl _) _
        have hne : (Value.slice (some ⟨g1, 0, none⟩) (k + 1) cap1).ownBlock ≠ some w.heap.size := row_box HOWN7.out HBS7.out
        have hown8 := own_same (w' := w7.setCell ⟨w.heap.size, 2, none⟩ (.slice (some ⟨g1, 0, none⟩) (k + 1) cap1)) HOWN7.out (fun z hz => Below.heap_setCell _ _ _ _ (fun (e : z = w.heap.size) => hne (e ▸ hz)))
        have hbx8 := box_set (i := 2) (v := .slice (some ⟨g1, 0, none⟩) (k + 1) cap1) HBS7.out
        have HLW := Lib.hid hlw; have HOWN8 := Lib.hid hown8; have HBX8 := Lib.hid hbx8
        clear hlw hne hown8 hbx8 cs7 fs7 c2 hi hz0 hz1 hz2 hsz
        go_wp2_with fail
        go_roundg (5 - (k + 1))
        case measure => omega
        case rel =>
          refine ⟨k + 1, _, hlt, ?_, HBX8.out, ?_, HLW.out, rfl⟩
          · rw [show (k : Int) + 1 + 1 = ((k + 1 : Nat) : Int) + 1 from by omega]
          · rw [lvs_succ, Sg.ndRow_snoc]; exact HOWN8.out
    · obtain rfl : k = 5 := by omega
      have HSV : RowKit.Hid (∃ g cap, SV w.heap.size w.heap.size g cap L 0 0 wr (lvs 5)) := by
        rcases HOWN.out.2 with ⟨_, h2⟩ | ⟨g, cap, cur, h1, h2, h3, h4⟩
        · omega
        · injection h1 with q1 q2 q3
          subst q1 q3
          exact ⟨g, _, ⟨lvs 5, lvs_of 5, by rw [lvs_len]; exact HOWN.out⟩, by rw [lvs_len]; exact HBX.out, Nat.le_refl _⟩
      go_wp2_with fail
      go_ret
      obtain ⟨g, cap, h⟩ := HSV.out
      exact ⟨g, cap, rfl, by rw [HL.out]; exact h, HBW.out⟩
end Go.Proofs.Ytaaapdfdedknfaa
