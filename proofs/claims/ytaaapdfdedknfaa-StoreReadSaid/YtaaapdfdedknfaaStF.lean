/- store's add, Var, Make, New: nodes are created. -/
import Derived.Test.YtaaapdfdedknfaaStE
namespace Go.Proofs.Ytaaapdfdedknfaa
open Go Go.RowKit
open Tp (T)
open Sg (Of Rt)
/-- What is handed back by what creates a node. -/
def AddP (B s g : Nat) (L C K : Int) (H : List SNd) (c : Sg.Cr) (w : World) (w' : World) : Prop := ∃ g' cap', SV B s g' cap' L (C + 1) K w' (H ++ [⟨c, H.length⟩]) ∧ Kp w.heap.size (fun k => k = s ∨ k = g) w w' ∧ (g' = g ∨ w.heap.size ≤ g')
theorem b48n {r : Nat} (h : r ≤ 100000) : (r + 1) * 48 ≤ 140737488355328 ∧ r + 1 ≤ maxLen := by unfold maxLen; omega
theorem store_no {A : Array Value} : ∀ C, Obj.cells A 89 ≠ .cells C 92 := fun C h => by injection h with _ h; exact absurd h (by decide)
theorem row_far {B n : Nat} {w : World} {v : Value} {xs : List Value} {b : Nat} {o : Obj} (h : w.ownsRow B 92 6 v n xs) (hb : w.heap[b]? = some o) (hs : ∀ A, o ≠ .cells A 92) : v.ownBlock ≠ some b := fun e => by
  rcases h.2 with ⟨h1, _⟩ | ⟨g, cap, cur, h1, _, h3, _⟩
  · rw [h1] at e; cases e
  · rw [h1] at e; injection e with e; dsimp only at e; rw [e, hb] at h3; injection h3 with h3; exact hs cur h3
theorem sv_put {B s g g1 cap cap1 N : Nat} {L C K : Int} {w7 : World} {G H' : List SNd} {d : SNd} (hb : w7.heap[s]? = some (.cells #[.int .i64 L, .int .i64 C, .slice (some ⟨g, 0, none⟩) N cap, .int .i64 K] 89)) (hlo : B ≤ s) (hO : Of (G ++ [d]) H') (hG : G.length = N)
    (hown : w7.ownsRow B 92 6 (.slice (some ⟨g1, 0, none⟩) (N + 1) cap1) (N + 1) (Sg.ndRow G ++ Sg.ndCells d)) : SV B s g1 cap1 L C K (w7.setCell ⟨s, 2, none⟩ (.slice (some ⟨g1, 0, none⟩) (N + 1) cap1)) H' := by
  have hne : (Value.slice (some ⟨g1, 0, none⟩) (N + 1) cap1).ownBlock ≠ some s := row_far hown hb store_no
  refine ⟨⟨_, hO, ?_⟩, ?_, hlo⟩
  · rw [List.length_append, Sg.ndRow_snoc, hG]
    exact own_same hown (fun z hz => Below.heap_setCell _ _ _ _ (fun (e : z = s) => hne (e ▸ hz)))
  · have hl : H'.length = N + 1 := by rw [← hO.len, List.length_append, hG]; rfl
    rw [hl]
    exact box_set hb
section
variable {B s g cap : Nat} {L C K : Int} {w : World} {H : List SNd}
set_option maxRecDepth 100000 in
set_option maxHeartbeats 4000000 in
theorem add12_any (h : SV B s g cap L C K w H) (c : Sg.Cr) (u : Int) (hN : H.length ≤ 100000) (hC : 0 ≤ C ∧ C ≤ 100000) :
    Calls Try.prog 90 #[.pointer (some ⟨s, 0, none⟩), .agg #[.int .i64 c.kind, .int .i64 c.level, .int .i64 c.a, .int .i64 c.b, .int .i64 u, .int .i64 c.met]] w fun e w' => e = .returned (.int .i64 (H.length : Int)) ∧ AddP B s g L C K H c w w' := by
  obtain ⟨k, l, a, b, m⟩ := c
  dsimp only
  obtain ⟨W1, hW1⟩ : ∃ W, w.alloc (.cells #[.int .i64 k, .int .i64 l, .int .i64 a, .int .i64 b, .int .i64 u, .int .i64 m] 92) = W := ⟨_, rfl⟩
  have hb1 : Below w.heap.size w W1 := by rw [← hW1]; exact (Below.refl _ _).alloc (Nat.le_refl _) _
  have hx1 : W1.heap[w.heap.size]? = some (.cells #[.int .i64 k, .int .i64 l, .int .i64 a, .int .i64 b, .int .i64 u, .int .i64 m] 92) := by rw [← hW1]; exact World.alloc_heap_new w _
  have h1 := h.below hb1
  have hsl := h.far.2.2.1
  have hgl := h.far.2.1
  have hne := h.far.2.2.2
  obtain ⟨N, hNN⟩ : ∃ N, H.length = N := ⟨_, rfl⟩
  obtain ⟨c0, c1, c2, c3⟩ := h1.sbox
  rw [hNN] at c2 hN ⊢
  have x4 : W1.cell? ⟨w.heap.size, 4, none⟩ = some (.int .i64 u) := cell_box hx1 rfl rfl
  have f4 : W1.frozen? ⟨w.heap.size, 4, none⟩ = false := IsC.frozen ⟨_, _, hx1⟩
  obtain ⟨W2, hW2⟩ : ∃ W, W1.setCell ⟨w.heap.size, 4, none⟩ (.int .i64 (N : Int)) = W := ⟨_, rfl⟩
  have hx2 : W2.heap[w.heap.size]? = some (.cells #[.int .i64 k, .int .i64 l, .int .i64 a, .int .i64 b, .int .i64 (N : Int), .int .i64 m] 92) := by rw [← hW2]; exact box_set hx1
  have hb2 : Below w.heap.size w W2 := by rw [← hW2]; exact hb1.setCell (p := ⟨w.heap.size, 4, none⟩) (Nat.le_refl _) _
  have h2 := h.below hb2
  have HW1 := Lib.hid hW1; have HW2 := Lib.hid hW2; have HX2 := Lib.hid hx2; have HB2 := Lib.hid hb2; have HSV := Lib.hid h2; have HNN := Lib.hid hNN; have HN := Lib.hid hN; have HC := Lib.hid hC; have HSL := Lib.hid hsl; have HGL := Lib.hid hgl; have HNE := Lib.hid hne
  clear h hW1 hb1 hx1 h1 hW2 hx2 hb2 h2 hNN hN hC hsl hgl hne
  go_enter Try.func90, Try.ntmps90
  go_upto_region 1 with fail
  rw [HW1.out]
  go_upto_region 3 with fail
  rw [HW2.out]
  clear c0 c1 c2 c3 x4 f4
  obtain ⟨c0, c1, c2, c3⟩ := HSV.out.sbox
  rw [HNN.out] at c2
  obtain ⟨G, hO, hown⟩ := HSV.out.row
  have hGL : G.length = N := hO.len.trans HNN.out
  rw [hGL] at hown
  have x0 : W2.cell? ⟨w.heap.size, 0, none⟩ = some (.int .i64 k) := cell_box HX2.out rfl rfl
  have x1 : W2.cell? ⟨w.heap.size, 1, none⟩ = some (.int .i64 l) := cell_box HX2.out rfl rfl
  have x2 : W2.cell? ⟨w.heap.size, 2, none⟩ = some (.int .i64 a) := cell_box HX2.out rfl rfl
  have x3 : W2.cell? ⟨w.heap.size, 3, none⟩ = some (.int .i64 b) := cell_box HX2.out rfl rfl
  have x4 : W2.cell? ⟨w.heap.size, 4, none⟩ = some (.int .i64 (N : Int)) := cell_box HX2.out rfl rfl
  have x5 : W2.cell? ⟨w.heap.size, 5, none⟩ = some (.int .i64 m) := cell_box HX2.out rfl rfl
  have hbs : W2.heap[s]? = some (.cells #[.int .i64 L, .int .i64 C, .slice (some ⟨g, 0, none⟩) N cap, .int .i64 K] 89) := by have := HSV.out.box; rw [HNN.out] at this; exact this
  have hs2 : s < W2.heap.size := (Array.getElem?_eq_some_iff.1 hbs).1
  have hx9 : w.heap.size < W2.heap.size := (Array.getElem?_eq_some_iff.1 HX2.out).1
  obtain ⟨i9, hi, hz0, hz1, hz2⟩ := info_parts info_nd
  obtain ⟨b1, b2⟩ := b48n (r := N) HN.out
  have HNX := Lib.hid (show B ≤ W2.heap.size from Nat.le_trans HSV.out.lo (Nat.le_of_lt hs2))
  have B1 := Lib.hid b1; have B2 := Lib.hid b2; have HO := Lib.hid hO; have HOWN := Lib.hid hown; have HGLN := Lib.hid hGL; have HBS := Lib.hid hbs
  clear b1 b2 hO hown hGL hbs
  go_region_law (first | (refine step_append_lies _ ?_ (.tmp 17) (.tmp 19) 87 ?_ B 92 i9 (.agg #[.int .i64 0, .int .i64 0, .int .i64 0, .int .i64 0, .int .i64 0, .int .i64 0]) 6 48 Try.underlying87 hi hz0 hz1 hz2 ?_ ?_ (.slice (some ⟨g, 0, none⟩) N cap) N (Sg.ndRow G) ?_ ?_ ⟨W2.heap.size, 0, none⟩ 1 1 [.int .i64 k, .int .i64 l, .int .i64 a, .int .i64 b, .int .i64 (N : Int), .int .i64 m] ?_ ?_ ?_ ?_ ?_ ?_ ?_ ?_ (W2.heap.size + 1) ?_ ?_; (· rfl); (· rfl); (· rfl); (· decide); (· rfl); (· exact HOWN.out.alloc _); (· rfl); (· rfl); (· exact World.news_of_block (World.alloc_heap_new W2 _)); (· exact Sg.nd_one ⟨⟨k, l, a, b, m⟩, N⟩); (· decide); (· exact B2.out); (· exact B1.out); (· exact Nat.le_trans HNX.out (by simp)); (· simp); intro g1 cap1 w7 own1 gr1 ly1 lt1; (have gr1' := undrew gr1); (have hbs7 : w7.heap[s]? = some (.cells #[.int .i64 L, .int .i64 C, .slice (some ⟨g, 0, none⟩) N cap, .int .i64 K] 89) := (gr1'.block s (by rw [World.size_alloc]; omega) (fun e => row_far HOWN.out HBS.out store_no e.symm)).trans ((Below.heap_alloc _ _ _ hs2).trans HBS.out)); (have cs7 : w7.cell? ⟨s, 2, none⟩ = some (.slice (some ⟨g, 0, none⟩) N cap) := cell_box hbs7 rfl rfl); (have fs7 : w7.frozen? ⟨s, 2, none⟩ = false := IsC.frozen ⟨_, _, hbs7⟩); (have HGR7 := Lib.hid gr1'); (have HOWN7 := Lib.hid own1); (have HBS7 := Lib.hid hbs7); (have HLY := Lib.hid ly1); (have HLT := Lib.hid lt1); clear gr1 gr1' own1 hbs7 ly1 lt1))
  all_goals
    obtain ⟨W8, hW8⟩ : ∃ V, w7.setCell ⟨s, 2, none⟩ (.slice (some ⟨g1, 0, none⟩) (N + 1) cap1) = V := ⟨_, rfl⟩
    have hsv8 : SV B s g1 cap1 L C K W8 (H ++ [⟨⟨k, l, a, b, m⟩, N⟩]) := by
      rw [← hW8]
      exact sv_put (d := ⟨⟨k, l, a, b, m⟩, N⟩) HBS7.out HSV.out.lo (HO.out.snoc_own HGLN.out.symm) HGLN.out HOWN7.out
    have hkp8 : Kp w.heap.size (fun z => z = s ∨ z = g) w W8 := by
      rw [← hW8]
      exact (((Kp.of_below HB2.out).alloc HB2.out.size _).grown HGR7.out (Nat.le_trans HB2.out.size (by simp)) (fun z hz => .inr (.inr (by injection hz with hz; exact hz.symm)))).setCell (.inr (.inl rfl)) _
    have HG1 := Lib.hid (show g1 = g ∨ w.heap.size ≤ g1 by
      rcases HLY.out with h9 | h9
      · injection h9 with h9; exact .inl h9.symm
      · exact .inr (by have := HB2.out.size; omega))
    rw [hW8]
    have HSV8 := Lib.hid hsv8; have HKP8 := Lib.hid hkp8
    clear hsv8 hkp8 hW8 x0 x1 x2 x3 x4 x5 c0 c1 c2 c3 cs7 fs7 hi hz0 hz1 hz2 hs2 hx9
    obtain ⟨c0, c1, c2, c3⟩ := HSV8.out.sbox
    have f1 : W8.frozen? ⟨s, 1, none⟩ = false := IsC.frozen ⟨_, _, HSV8.out.box⟩
    have hcc : wrap64 (C + 1) = C + 1 := by have := HC.out; unfold wrap64; omega
    go_wp2_with fail
    go_ret
    refine ⟨rfl, g1, cap1, ?_, HKP8.out.setCell (.inr (.inl rfl)) _, HG1.out⟩
    rw [HNN.out]
    exact HSV8.out.num 1 (C + 1) L (C + 1) K (.inl ⟨rfl, rfl, rfl, rfl⟩)
end
end Go.Proofs.Ytaaapdfdedknfaa
