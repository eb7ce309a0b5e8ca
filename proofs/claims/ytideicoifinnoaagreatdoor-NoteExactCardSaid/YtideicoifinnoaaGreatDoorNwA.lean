/- The statements' own sample of layer 4. -/
import Derived.Test.YtideicoifinnoaaGreatDoorNrK
import Derived.Test.YtideicoifinnoaaGreatDoorNtT
import Derived.Test.YtideicoifinnoaaGreatDoorLexA
import Derived.Lib.SlBytesConst
namespace Go.Proofs.YtideicoifinnoaaGreatDoor
open Go Go.RowKit
open Tp (T)

theorem holds_new (w : World) (cs : Array Value) (l : List UInt8) (t : TypeId) (fr : Nat × Nat) (h : cs.toList = Lib.byteCells l) : Holds (w.alloc (.cells cs t fr)) (some ⟨w.heap.size, 0, none⟩) l := by
  refine Or.inr ⟨_, 0, rfl, by simp, fun i hi => ?_⟩
  rw [cell_of_row (w.alloc (.cells cs t fr)) w.heap.size _ cs t fr (heap_alloc_new w _), ← Array.getElem?_toList, h, Nat.zero_add]
  simp [Lib.byteCells, hi]
theorem tokCells_at : ∀ (ts : List Lx.Tok) (i : Nat) (h : i < ts.length) (j : Nat), j < 5 → (tokCells ts)[i * 5 + j]? = (tokRow ts[i])[j]?
  | [], i, h, _, _ => by simp at h
  | t :: r, 0, h, j, hj => by
    have e : tokCells (t :: r) = tokRow t ++ tokCells r := by simp [tokCells]
    rw [e, Nat.zero_mul, Nat.zero_add, List.getElem?_append_left (by simp [tokRow]; omega)]; rfl
  | t :: r, i + 1, h, j, hj => by
    have e : tokCells (t :: r) = tokRow t ++ tokCells r := by simp [tokCells]
    rw [e, List.getElem?_append_right (by simp [tokRow]; omega)]
    have ih := tokCells_at r i (by simpa using h) j hj
    rw [show (i + 1) * 5 + j - (tokRow t).length = i * 5 + j from by simp [tokRow]; omega, ih]; rfl
/-- What lex.Scan hands back, as the reader wants it. -/
theorem tks_own {w : World} {B : Nat} {a : Option Addr} {n cap : Nat} {ts : List Lx.Tok} (h : w.ownsRow B 60 5 (.slice a n cap) ts.length (tokCells ts)) : n = ts.length ∧ TksAt w.heap.size w a ts := by
  obtain ⟨a', cap', e⟩ := own_shape' h
  injection e with e1 e2 e3
  refine ⟨e2, ?_⟩
  by_cases h0 : ts = []
  · exact Or.inl h0
  · have hp : 0 < ts.length := List.length_pos_iff.2 h0
    obtain ⟨g, cap2, hv, hlt, hlt2⟩ := h.form hp
    injection hv with hv1 hv2 hv3
    subst hv1
    refine Or.inr ⟨g, rfl, hlt2, fun i hi => ?_⟩
    have hc := h.cells (g := g) rfl
    have k : ∀ j, j < 5 → ∀ u, (tokRow ts[i])[j]? = some u → w.cell? ⟨g, i * 5 + j, none⟩ = some u := fun j hj u hu => by
      have := hc (i * 5 + j) u (by rw [tokCells_at ts i hi j hj]; exact hu)
      rw [← this]; congr 1; unfold Addr.add; split <;> simp_all
    exact ⟨k 0 (by omega) _ rfl, k 3 (by omega) _ rfl⟩
theorem TksAt.later {w w' : World} {a : Option Addr} {ts : List Lx.Tok} (h : TksAt w.heap.size w a ts) (hb : Below w.heap.size w w') : TksAt w'.heap.size w' a ts := by
  rcases h.below hb with h1 | ⟨g, h1, h2, h3⟩
  · exact .inl h1
  · exact .inr ⟨g, h1, Nat.lt_of_lt_of_le h2 hb.size, h3⟩
/-- The sample. -/
def SRC4 : List UInt8 := [105, 110, 116, 32, 42, 32, 98, 111, 111, 108, 32, 45, 62, 32, 63, 32, 108, 105, 115, 116, 32, 41]
def TOK4 : List Lx.Tok := [⟨2, 0, 3, [105, 110, 116], 0⟩, ⟨5, 4, 5, [42], 0⟩, ⟨2, 6, 10, [98, 111, 111, 108], 0⟩, ⟨5, 11, 13, [45, 62], 0⟩, ⟨5, 14, 15, [63], 0⟩, ⟨2, 16, 20, [108, 105, 115, 116], 0⟩, ⟨5, 21, 22, [41], 0⟩]
def TY4 : T := .mk 9 0 [.mk 7 0 [.mk 1 0 [], .mk 2 0 []], .mk 8 0 [.mk 5 0 []]]
theorem src4_scan : scanAll SRC4 = .good TOK4 := by kernel_rfl
theorem tok4_read : readOut TOK4 0 = (TY4, 6, 0) := by kernel_rfl
theorem tok4_bad : readOut TOK4 1 = (Nt.noT, 1, 3) := by kernel_rfl
theorem ty4_text : textOf TY4 = [40, 105, 110, 116, 32, 42, 32, 98, 111, 111, 108, 41, 32, 45, 62, 32, 40, 63, 32, 108, 105, 115, 116, 41] := by kernel_rfl
theorem ty4_right : Tp.right TY4 = true := by kernel_rfl
theorem ty4_size : Tp.size TY4 = 6 := by kernel_rfl
set_option maxRecDepth 100000 in
set_option maxHeartbeats 4000000 in
theorem wakes_any (w : World) (hg : Good w) :
    Calls Tryz.prog 13 #[] w fun e w' => e = .returned (.bool true) ∧ Below w.heap.size w w' := by
  have HG := Lib.hid hg; clear hg
  have h1 : ∀ (a : Option Addr) (cap : Nat) (w : World), Holds w a SRC4 → Good w → Calls Tryz.prog 10 #[.slice a 22 cap] w (ScanPost (.good TOK4) w) := fun a cap w hh hg => by
    have := scan_any a cap SRC4 w hh hg
    rw [src4_scan] at this; exact this
  have h2 : ∀ (a : Option Addr) (cap : Nat) (w : World), TksAt w.heap.size w a TOK4 → Good w → Calls Tryz.prog 11 #[.slice a 7 cap, .int .i64 0] w (ReadPost TOK4 0 w) := fun a cap w ht hg => read_any a cap TOK4 0 w ht (by decide) (by unfold I64; omega) hg
  have h3 : ∀ (a : Option Addr) (cap : Nat) (w : World), TksAt w.heap.size w a TOK4 → Good w → Calls Tryz.prog 11 #[.slice a 7 cap, .int .i64 1] w (ReadPost TOK4 1 w) := fun a cap w ht hg => read_any a cap TOK4 1 w ht (by decide) (by unfold I64; omega) hg
  have h4 : ∀ (a : Option Addr) (cap : Nat) (w : World), TyAt (LT w.heap.size) w TY4 a cap → Good w → Calls Tryz.prog 6 #[.agg #[.int .i64 9, .int .i64 0, .slice a 2 cap]] w fun e w' => e = .returned (.tuple #[.string ⟨#[40, 105, 110, 116, 32, 42, 32, 98, 111, 111, 108, 41, 32, 45, 62, 32, 40, 63, 32, 108, 105, 115, 116, 41]⟩, .int .i64 0]) ∧ Below w.heap.size w w' := fun a cap w ht hg => by
    have := text_any TY4 a cap w (by rw [ty4_size]; omega) ht hg
    rw [ty4_text, ty4_right] at this; exact this
  have H1 := Lib.hid h1; have H2 := Lib.hid h2; have H3 := Lib.hid h3; have H4 := Lib.hid h4; clear h1 h2 h3 h4
  have kc := fun (w : World) (C : Array Value) (n c : Nat) => Lib.run_convert_bytes_const (P := Tryz.prog) w 25 5 C n c Tryz.underlying25 Tryz.underlying5
  go_enter Tryz.func13, Tryz.ntmps13
  go_wp2_with fail
  have hb0 := (Below.refl w.heap.size w).alloc (Nat.le_refl _) (.cells #[.int .u8 105, .int .u8 110, .int .u8 116, .int .u8 32, .int .u8 42, .int .u8 32, .int .u8 98, .int .u8 111, .int .u8 111, .int .u8 108, .int .u8 32, .int .u8 45, .int .u8 62, .int .u8 32, .int .u8 63, .int .u8 32, .int .u8 108, .int .u8 105, .int .u8 115, .int .u8 116, .int .u8 32, .int .u8 41] 5 (22, 23))
  refine (H1.out _ _ _ (holds_new w _ SRC4 _ _ (by kernel_rfl)) (HG.out.below hb0)).mono ?_
  rintro e w1 ⟨v, rfl, hown, hb1⟩
  have hb1' := hb0.trans (hb1.mono (by simp))
  obtain ⟨a, cap, rfl⟩ := own_shape' hown
  have ht := (tks_own hown).2
  have hz : TOK4.length = 7 := rfl
  rw [hz]
  have HT := Lib.hid ht; have HG1 := Lib.hid (HG.out.below hb1'); have HB1 := Lib.hid hb1'
  clear hb0 hb1 hb1' hown ht hz
  go_wp2_with fail
  refine (H2.out _ _ _ HT.out HG1.out).mono ?_
  rintro e w2 ⟨a2, cap2, rfl, hty2, hb2⟩
  rw [tok4_read] at hty2 ⊢
  rw [show tv TY4 a2 cap2 = Value.agg #[.int .i64 9, .int .i64 0, .slice a2 2 cap2] from rfl]
  have hal : Below w2.heap.size w2 (w2.alloc (.cells #[.int .i64 9, .int .i64 0, .slice a2 2 cap2] 24)) := (Below.refl _ _).alloc (Nat.le_refl _) _
  have hnw := World.alloc_heap_new w2 (.cells #[.int .i64 9, .int .i64 0, .slice a2 2 cap2] 24)
  have x0 : (w2.alloc (.cells #[.int .i64 9, .int .i64 0, .slice a2 2 cap2] 24)).cell? ⟨w2.heap.size, 0, none⟩ = some (.int .i64 9) := cell_box hnw rfl rfl
  have x1 : (w2.alloc (.cells #[.int .i64 9, .int .i64 0, .slice a2 2 cap2] 24)).cell? ⟨w2.heap.size, 1, none⟩ = some (.int .i64 0) := cell_box hnw rfl rfl
  have x2 : (w2.alloc (.cells #[.int .i64 9, .int .i64 0, .slice a2 2 cap2] 24)).cell? ⟨w2.heap.size, 2, none⟩ = some (.slice a2 2 cap2) := cell_box hnw rfl rfl
  have hb3 := hb2.trans (hal.mono hb2.size)
  have HTY := Lib.hid (hty2.below hal (fun _ h => h) (fun b h => Nat.lt_of_lt_of_le h hal.size)); have HG2 := Lib.hid (HG1.out.below hb3); have HB2 := Lib.hid (HB1.out.trans (hb3.mono HB1.out.size)); have HT2 := Lib.hid (HT.out.later hb3)
  clear hal hnw hb2 hb3 hty2
  go_wp2_with fail
  clear x0 x1 x2
  refine (H4.out _ _ _ HTY.out HG2.out).mono ?_
  rintro e w3 ⟨rfl, hb3⟩
  have HG3 := Lib.hid (HG2.out.below hb3); have HB3 := Lib.hid (HB2.out.trans (hb3.mono HB2.out.size)); have HT3 := Lib.hid (HT2.out.later hb3)
  clear hb3
  go_wp2_with fail
  refine (H3.out _ _ _ HT3.out HG3.out).mono ?_
  rintro e w4 ⟨a4, cap4, rfl, hty4, hb4⟩
  rw [tok4_bad]
  rw [show tv Nt.noT a4 cap4 = Value.agg #[.int .i64 0, .int .i64 0, .slice a4 0 cap4] from rfl]
  have HB4 := Lib.hid ((HB3.out.trans (hb4.mono HB3.out.size)).alloc (Nat.le_trans HB3.out.size hb4.size) (.cells #[.int .i64 0, .int .i64 0, .slice a4 0 cap4] 24))
  clear hb4 hty4
  go_wp2_with fail
  go_ret
  exact ⟨rfl, HB4.out⟩
end Go.Proofs.YtideicoifinnoaaGreatDoor
