/- Walks: tokens that lie in memory; the statements' own sample. -/
import Derived.Test.YthiifacfkeibbaaDoorLexD
import Derived.Lib.SlBytesConst
namespace Go.Proofs.YthiifacfkeibbaaDoor
open Go Go.RowKit
open Go.Proofs

theorem holds_new (w : World) (cs : Array Value) (l : List UInt8) (t : TypeId) (fr : Nat × Nat) (h : cs.toList = Lib.byteCells l) : Holds (w.alloc (.cells cs t fr)) (some ⟨w.heap.size, 0, none⟩) l := by
  refine Or.inr ⟨_, 0, rfl, by simp, fun i hi => ?_⟩
  rw [cell_of_row (w.alloc (.cells cs t fr)) w.heap.size _ cs t fr (heap_alloc_new w _), ← Array.getElem?_toList, h, Nat.zero_add]
  simp [Lib.byteCells, hi]

/-- The i-th token of the block. -/
def TokAt (w : World) (g i : Nat) (t : Lx.Tok) : Prop :=
  w.cell? ⟨g, i * 5, none⟩ = some (.int .i64 (t.kind : Int)) ∧ w.cell? ⟨g, i * 5 + 1, none⟩ = some (.int .i64 (t.frm : Int)) ∧ w.cell? ⟨g, i * 5 + 2, none⟩ = some (.int .i64 (t.to_ : Int)) ∧
    w.cell? ⟨g, i * 5 + 3, none⟩ = some (.string ⟨t.s.toArray⟩) ∧ w.cell? ⟨g, i * 5 + 4, none⟩ = some (.int .i64 t.n)
def ToksAt (w : World) (a : Option Addr) (ts : List Lx.Tok) : Prop :=
  ts = [] ∨ ∃ g, a = some ⟨g, 0, none⟩ ∧ g < w.heap.size ∧ ∀ i (h : i < ts.length), TokAt w g i ts[i]
theorem ToksAt.below {w w' : World} {a : Option Addr} {ts : List Lx.Tok} (h : ToksAt w a ts) {B : Nat} (hB : w.heap.size ≤ B) (hb : Below B w w') : ToksAt w' a ts := by
  rcases h with h | ⟨g, h1, h2, h3⟩
  · exact Or.inl h
  · refine Or.inr ⟨g, h1, Nat.lt_of_lt_of_le h2 hb.size, fun i hi => ?_⟩
    obtain ⟨c0, c1, c2, c3, c4⟩ := h3 i hi
    have k : ∀ o, w'.cell? ⟨g, o, none⟩ = w.cell? ⟨g, o, none⟩ := fun o => hb.cell (p := ⟨g, o, none⟩) (Nat.lt_of_lt_of_le h2 hB)
    exact ⟨by rw [k]; exact c0, by rw [k]; exact c1, by rw [k]; exact c2, by rw [k]; exact c3, by rw [k]; exact c4⟩
theorem tokCells_at : ∀ (ts : List Lx.Tok) (i : Nat) (h : i < ts.length) (j : Nat), j < 5 → (tokCells ts)[i * 5 + j]? = (tokRow ts[i])[j]?
  | [], i, h, _, _ => by simp at h
  | t :: r, 0, h, j, hj => by
    have e : tokCells (t :: r) = tokRow t ++ tokCells r := by simp [tokCells]
    rw [e, Nat.zero_mul, Nat.zero_add, List.getElem?_append_left (by simp [tokRow]; omega)]; rfl
  | t :: r, i + 1, h, j, hj => by
    have e : tokCells (t :: r) = tokRow t ++ tokCells r := by simp [tokCells]
    rw [e, List.getElem?_append_right (by simp [tokRow]; omega)]
    have ih := tokCells_at r i (by simpa using h) j hj
    rw [show (i + 1) * 5 + j - (tokRow t).length = i * 5 + j from by simp [tokRow]; omega, ih]; rfl
theorem toks_own {w : World} {B : Nat} {a : Option Addr} {n cap : Nat} {ts : List Lx.Tok} (h : w.ownsRow B 32 5 (.slice a n cap) ts.length (tokCells ts)) : n = ts.length ∧ ToksAt w a ts := by
  obtain ⟨a', cap', e⟩ := own_shape' h
  injection e with e1 e2 e3
  refine ⟨e2, ?_⟩
  by_cases h0 : ts = []
  · exact Or.inl h0
  · have hp : 0 < ts.length := List.length_pos_iff.2 h0
    obtain ⟨g, cap2, hv, hlt, hlt2⟩ := h.form hp
    injection hv with hv1 hv2 hv3
    subst hv1
    refine Or.inr ⟨g, rfl, hlt2, fun i hi => ?_⟩
    have hc := h.cells (g := g) rfl
    have k : ∀ j, j < 5 → ∀ u, (tokRow ts[i])[j]? = some u → w.cell? ⟨g, i * 5 + j, none⟩ = some u := fun j hj u hu => by
      have := hc (i * 5 + j) u (by rw [tokCells_at ts i hi j hj]; exact hu)
      rw [← this]; congr 1; unfold Addr.add; split <;> simp_all
    exact ⟨k 0 (by omega) _ rfl, k 1 (by omega) _ rfl, k 2 (by omega) _ rfl, k 3 (by omega) _ rfl, k 4 (by omega) _ rfl⟩

def SRC : List UInt8 := [108, 101, 116, 32, 120, 39, 61, 126, 53, 58, 58, 34, 97, 34, 35, 99, 10, 45, 62]
def SRCT : List Lx.Tok := [⟨2, 0, 3, [108, 101, 116], 0⟩, ⟨1, 4, 6, [120, 39], 0⟩, ⟨5, 6, 7, [61], 0⟩, ⟨3, 7, 9, [], -5⟩, ⟨5, 9, 11, [58, 58], 0⟩, ⟨4, 11, 14, [97], 0⟩, ⟨5, 17, 19, [45, 62], 0⟩]
theorem src_scan : scanAll SRC = .good SRCT := by kernel_rfl
theorem bad_scan : scanAll [97, 32, 36] = .bad 2 := by kernel_rfl

set_option maxRecDepth 100000 in
set_option maxHeartbeats 2000000 in
theorem xwakes_any (w : World) (hg : Good w) :
    Calls Tryd.prog 11 #[] w fun e w' => e = .returned (.bool true) ∧ Below w.heap.size w w' := by
  have HG := Lib.hid hg; clear hg
  have h1 : ∀ (a : Option Addr) (cap : Nat) (w : World), Holds w a SRC → Good w → Calls Tryd.prog 8 #[.slice a 19 cap] w (ScanPost (.good SRCT) w) := fun a cap w hh hg => by
    have := scan_any a cap SRC w hh hg
    rw [src_scan] at this; exact this
  have h2 : ∀ (a : Option Addr) (cap : Nat) (w : World), Holds w a [97, 32, 36] → Good w → Calls Tryd.prog 8 #[.slice a 3 cap] w (ScanPost (.bad 2) w) := fun a cap w hh hg => by
    have := scan_any a cap [97, 32, 36] w hh hg
    rw [bad_scan] at this; exact this
  have H1 := Lib.hid h1; have H2 := Lib.hid h2; clear h1 h2
  have kc := fun (w : World) (C : Array Value) (n c : Nat) => Lib.run_convert_bytes_const (P := Tryd.prog) w 22 5 C n c Tryd.underlying22 Tryd.underlying5
  go_enter Tryd.func11, Tryd.ntmps11
  go_wp2_with fail
  have hb0 := (Below.refl w.heap.size w).alloc (Nat.le_refl _) (.cells #[.int .u8 108, .int .u8 101, .int .u8 116, .int .u8 32, .int .u8 120, .int .u8 39, .int .u8 61, .int .u8 126, .int .u8 53, .int .u8 58, .int .u8 58, .int .u8 34, .int .u8 97, .int .u8 34, .int .u8 35, .int .u8 99, .int .u8 10, .int .u8 45, .int .u8 62] 5 (19, 20))
  refine (H1.out _ _ _ (holds_new w _ SRC _ _ (by kernel_rfl)) (HG.out.below hb0)).mono ?_
  rintro e w1 ⟨v, rfl, hown, hb1⟩
  have hb1' := hb0.trans (hb1.mono (by simp))
  obtain ⟨a, cap, rfl⟩ := own_shape' hown
  have ht := (toks_own hown).2
  have HT := Lib.hid ht; have HG1 := Lib.hid (HG.out.below hb1'); have HB1 := Lib.hid hb1'
  clear hb0 hb1 hb1' hown ht
  go_wp2_with fail
  have hb2 := (Below.refl w1.heap.size w1).alloc (Nat.le_refl _) (.cells #[.int .u8 97, .int .u8 32, .int .u8 36] 5 (3, 4))
  refine (H2.out _ _ _ (holds_new w1 _ [97, 32, 36] _ _ (by kernel_rfl)) (HG1.out.below hb2)).mono ?_
  rintro e w2 ⟨rfl, hb3⟩
  have hb3' := hb2.trans (hb3.mono (by simp))
  have hz : SRCT.length = 7 := rfl
  rw [hz]
  have ht2 := HT.out.below (Nat.le_refl _) hb3'
  rcases ht2 with ht2 | ⟨g, rfl, hg2, ht2⟩
  · cases ht2
  have c0 := ht2 0 (by decide); have c1 := ht2 1 (by decide); have c3 := ht2 3 (by decide); have c4 := ht2 4 (by decide); have c5 := ht2 5 (by decide); have c6 := ht2 6 (by decide)
  have k0 : w2.cell? ⟨g, 0, none⟩ = some (.int .i64 2) := c0.1
  have k1 : w2.cell? ⟨g, 1, none⟩ = some (.int .i64 0) := c0.2.1
  have k2 : w2.cell? ⟨g, 2, none⟩ = some (.int .i64 3) := c0.2.2.1
  have k3 : w2.cell? ⟨g, 3, none⟩ = some (.string { data := #[108, 101, 116] }) := c0.2.2.2.1
  have k4 : w2.cell? ⟨g, 4, none⟩ = some (.int .i64 0) := c0.2.2.2.2
  have k5 : w2.cell? ⟨g, 5, none⟩ = some (.int .i64 1) := c1.1
  have k8 : w2.cell? ⟨g, 8, none⟩ = some (.string { data := #[120, 39] }) := c1.2.2.2.1
  have k15 : w2.cell? ⟨g, 15, none⟩ = some (.int .i64 3) := c3.1
  have k19 : w2.cell? ⟨g, 19, none⟩ = some (.int .i64 (-5)) := c3.2.2.2.2
  have k23 : w2.cell? ⟨g, 23, none⟩ = some (.string { data := #[58, 58] }) := c4.2.2.2.1
  have k25 : w2.cell? ⟨g, 25, none⟩ = some (.int .i64 4) := c5.1
  have k28 : w2.cell? ⟨g, 28, none⟩ = some (.string { data := #[97] }) := c5.2.2.2.1
  have k33 : w2.cell? ⟨g, 33, none⟩ = some (.string { data := #[45, 62] }) := c6.2.2.2.1
  have k31 : w2.cell? ⟨g, 31, none⟩ = some (.int .i64 17) := c6.2.1
  have HB3 := Lib.hid (HB1.out.trans (hb3'.mono HB1.out.size))
  clear c0 c1 c3 c4 c5 c6 ht2 hz hb2 hb3 hb3' HT HG HG1 HB1 H1 H2 kc
  go_wp2_with fail
  go_ret
  exact ⟨rfl, HB3.out⟩
end Go.Proofs.YthiifacfkeibbaaDoor
