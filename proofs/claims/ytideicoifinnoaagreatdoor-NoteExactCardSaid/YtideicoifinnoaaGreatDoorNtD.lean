/- strings.Builder: copyCheck and WriteString, with what they leave alone. -/
import Derived.Test.YtideicoifinnoaaGreatDoorShelf
import Derived.Test.YtideicoifinnoaaGreatDoorPure
import Derived.Lib.Builder
import Derived.Lib.AppendStr
import Derived.WalkKit
import Derived.Lib.Hide
namespace Go.Proofs.YtideicoifinnoaaGreatDoor
open Go Go.RowKit

theorem info_bld : (Tryz.prog.info? 45).map (·.size) = some 2 := by kernel_rfl
theorem lies_bld : liesAt Tryz.prog Tryz.prog.depth 45 (2 / Tryz.prog.cellsOf 45) 0 45 1 = true := by kernel_rfl
theorem info_u8 : (Tryz.prog.info? 5).map (fun i => (i.zero, i.size, i.bytes)) = some (some (.int .u8 0), 1, 1) := by kernel_rfl
/-- What is no row of bytes, nor the builder, stays. -/
def Keeps (b : Nat) (w w' : World) : Prop := ∀ k, k < w.heap.size → k ≠ b → (∀ cur fz, w.heap[k]? ≠ some (.cells cur 5 fz)) → w'.heap[k]? = w.heap[k]?
set_option maxHeartbeats 1000000 in
theorem check_used (b : Nat) (w : World) (h0 : w.cell? ⟨b, 0, none⟩ = some (.pointer (some ⟨b, 0, none⟩))) :
    Calls Tryz.prog 31 #[.pointer (some ⟨b, 0, none⟩)] w fun e w' => e = .returned (.tuple #[]) ∧ w' = w := by
  obtain ⟨j, hj, _⟩ := Option.map_eq_some_iff.1 info_bld
  have e4 := Lib.run_neq_ptr_same w ⟨b, 0, none⟩ Tryz.underlying43 hj
  clear hj
  go_enter Tryz.func31, Tryz.ntmps31
  go_wp2_with fail
  go_end0
  exact ⟨rfl, rfl⟩
set_option maxHeartbeats 1000000 in
theorem check_fresh (b : Nat) (w : World) (h0 : w.cell? ⟨b, 0, none⟩ = some (.pointer none)) (hsh : w.shape? b = some (45, 2)) (hfz : w.frozen? ⟨b, 0, none⟩ = false) :
    Calls Tryz.prog 31 #[.pointer (some ⟨b, 0, none⟩)] w fun e w' => e = .returned (.tuple #[]) ∧ w' = w.setCell ⟨b, 0, none⟩ (.pointer (some ⟨b, 0, none⟩)) := by
  obtain ⟨j, hj, hjs⟩ := Option.map_eq_some_iff.1 info_bld
  have e4 := fun w : World => Lib.run_neq_ptr_same w ⟨b, 0, none⟩ Tryz.underlying43 hj
  have e1 := Lib.run_to_unsafe w ⟨b, 0, none⟩ Tryz.underlying43 Tryz.underlying91 hj (by rw [hjs]; decide) hsh (Nat.zero_lt_succ 1)
  have e3 := Lib.run_from_unsafe w ⟨b, 0, none⟩ Tryz.underlying91 Tryz.underlying43 hj hsh lies_bld
  have e2 : (callFunc 52 #[.pointer (some ⟨b, 0, none⟩)]).run Tryz.prog w = .ok (.value (.pointer (some ⟨b, 0, none⟩))) w := by
    rw [run_callFunc_extern Tryz.func52 (by kernel_rfl) (by kernel_rfl) (by kernel_rfl) (e := Extern.AbiNoEscape.same) (by kernel_rfl), Lib.run_noEscape]
    rfl
  clear hj hjs hsh
  go_enter Tryz.func31, Tryz.ntmps31
  go_wp2_with fail
  go_end0
  exact ⟨rfl, rfl⟩
theorem neq_bld : 45 ≠ 5 := by decide
theorem Keeps.refl (b : Nat) (w : World) : Keeps b w w := fun _ _ _ _ => rfl
theorem Keeps.trans {b : Nat} {w1 w2 w3 : World} (h : Keeps b w1 w2) (k : Keeps b w2 w3) (hs : w1.heap.size ≤ w2.heap.size) : Keeps b w1 w3 := fun q h1 h2 h3 => by
  have e := h q h1 h2 h3
  rw [k q (Nat.lt_of_lt_of_le h1 hs) h2 (fun cur fz => by rw [e]; exact h3 cur fz), e]
theorem Keeps.set {b j : Nat} {w : World} {v : Value} : Keeps b w (w.setCell ⟨b, j, none⟩ v) := fun _ _ h2 _ => Below.heap_setCell _ _ _ _ h2
/-- Behind an append onto the builder's own row. -/
theorem Keeps.grown {B b n : Nat} {w w' : World} {v : Value} {xs : List Value} (h : w.grownBy w' v.ownBlock) (hown : w.ownsRow B 5 1 v n xs) : Keeps b w w' := fun q h1 _ h3 => by
  refine h.block q h1 (fun e => ?_)
  rcases hown.2 with ⟨h4, _⟩ | ⟨g, cap, cur, h4, _, h5, _⟩
  · rw [h4] at e; cases e
  · rw [h4] at e
    injection e with e
    subst e
    exact h3 cur (0, 0) h5

set_option maxHeartbeats 1000000 in
/-- WriteString: the bytes come behind those that are there. -/
theorem write_any (B b : Nat) (bs : List Value) (s : List UInt8) (w : World) (h : Lib.IsBuilder 45 5 B b bs w) (hlen : bs.length + s.length ≤ 1000000) (hBw : B ≤ w.heap.size) :
    Calls Tryz.prog 16 #[.pointer (some ⟨b, 0, none⟩), .string ⟨s.toArray⟩] w fun e w' => (∃ v, e = .returned v) ∧ Lib.IsBuilder 45 5 B b (bs ++ Lib.byteCells s) w' ∧ Below B w w' ∧ Keeps b w w' := by
  have hs : (⟨s.toArray⟩ : ByteArray).size = s.length := by show s.toArray.size = _; simp
  obtain ⟨i0, hi, hz0, hz1, hz2⟩ := info_parts info_u8
  have hc : Calls Tryz.prog 31 #[.pointer (some ⟨b, 0, none⟩)] w fun e w' => e = .returned (.tuple #[]) ∧ Lib.BuilderAt 45 5 B b (.pointer (some ⟨b, 0, none⟩)) bs w' ∧ Below B w w' ∧ Keeps b w w' := by
    rcases h with h | h
    · refine (check_fresh b w h.cell0 h.shape h.frozen0).mono ?_
      rintro e w' ⟨rfl, rfl⟩
      exact ⟨rfl, h.used _, (Below.refl B w).setCell (p := ⟨b, 0, none⟩) h.1 _, Keeps.set⟩
    · refine (check_used b w h.cell0).mono ?_
      rintro e w' ⟨rfl, rfl⟩
      exact ⟨rfl, h, Below.refl B _, Keeps.refl _ _⟩
  have HC := Lib.hid hc
  clear hc h
  go_enter Tryz.func16, Tryz.ntmps16
  go_wp2_with fail
  refine HC.out.mono ?_
  rintro e w1 ⟨rfl, ⟨hB, v, hbk, hown, hne⟩, hb1, hk1⟩
  have c0 : w1.cell? ⟨b, 0, none⟩ = some (.pointer (some ⟨b, 0, none⟩)) := by rw [Lib.cell_of_heap hbk]; rfl
  have c1 : w1.cell? ⟨b, 1, none⟩ = some v := by rw [Lib.cell_of_heap hbk]; rfl
  have HOWN := Lib.hid hown; have HB1 := Lib.hid hb1; have HK1 := Lib.hid hk1; have HBK := Lib.hid hbk; have HNE := Lib.hid hne
  clear hown hb1 hk1 hbk hne
  go_wp2_with (at_builtin; refine Lib.wpList_append_own_string _ rfl (.tmp 12) (.tmp 13) 25 9 rfl B 5 i0 Tryz.underlying25 Tryz.underlying9 hi hz0 hz1 hz2 v bs.length bs rfl HOWN.out ⟨s.toArray⟩ rfl ?len ?bytes ?base ?_)
  case len => rw [hs]; unfold maxLen; omega
  case bytes => rw [hs]; omega
  case base => have := HB1.out.size; omega
  intro v2 w2 hown2 hgr _
  have hlt : b < w1.heap.size := (Array.getElem?_eq_some_iff.1 HBK.out).1
  have hb2 : w2.heap[b]? = some (.cells #[.pointer (some ⟨b, 0, none⟩), v] 45 (0, 0)) := by
    rw [hgr.block b hlt (fun e => HNE.out e.symm)]
    exact HBK.out
  have d0 : w2.cell? ⟨b, 0, none⟩ = some (.pointer (some ⟨b, 0, none⟩)) := by rw [Lib.cell_of_heap hb2]; rfl
  have d1 : w2.cell? ⟨b, 1, none⟩ = some v := by rw [Lib.cell_of_heap hb2]; rfl
  have f1 : w2.frozen? ⟨b, 1, none⟩ = false := Lib.frozen_of_heap hb2 1
  obtain ⟨ao, n2, cap2, rfl⟩ : ∃ ao n2 cap2, v2 = .slice ao n2 cap2 := by
    rcases hown2.2 with ⟨h1, _⟩ | ⟨g, cap, cur, h1, _⟩
    · exact ⟨_, _, _, h1⟩
    · exact ⟨_, _, _, h1⟩
  have HO2 := Lib.hid hown2; have HG := Lib.hid hgr; have HB2 := Lib.hid hb2
  clear hown2 hgr hb2 c0 c1
  go_wp2_with fail
  go_ret2
  have hcells : Lib.strCells ⟨s.toArray⟩ = Lib.byteCells s := by simp [Lib.strCells, Lib.byteCells]
  refine ⟨⟨_, rfl⟩, .inr ?_, ?_, ?_⟩
  · rw [← hcells]
    exact Lib.BuilderAt.put hB HB2.out (bs' := bs ++ Lib.strCells ⟨s.toArray⟩) (by rw [List.length_append, Lib.strCells_length]; exact HO2.out) neq_bld
  · exact (HB1.out.grown HG.out (by have := HB1.out.size; omega) (fun k hk => (HOWN.out.lt k hk).1)).setCell (p := ⟨b, 1, none⟩) hB _
  · exact (HK1.out.trans (Keeps.grown HG.out HOWN.out) HB1.out.size).trans Keeps.set (Nat.le_trans HB1.out.size HG.out.size)
end Go.Proofs.YtideicoifinnoaaGreatDoor
