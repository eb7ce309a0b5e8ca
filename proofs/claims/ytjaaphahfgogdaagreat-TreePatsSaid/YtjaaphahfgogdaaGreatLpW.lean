/- The law TreePats: its walk. -/
import Derived.Test.YtjaaphahfgogdaaGreatTwA
import Derived.Test.YtjaaphahfgogdaaGreatTeD
import Derived.Test.YtjaaphahfgogdaaGreatTwP
import Derived.Sort.CutIn
import Derived.BigQuiet
namespace Go.Proofs.YtjaaphahfgogdaaGreat
open Go Go.RowKit
open Tr (P)

theorem keepc' {w x : World} (h : Below w.heap.size w x) {a : Addr} {v : Value} (hc : w.cell? a = some v) : x.cell? a = some v := (World.cell?_of_block (h.block a.block (cell_lt hc))).trans hc
/-- Two patterns in boxes of the call's own. -/
theorem pbox_two {w : World} {p q : P} {a a' : Option Addr} {cap cap' : Nat} (hp : PatAt (LT w.heap.size) w p a cap) (hq : PatAt (LT w.heap.size) w q a' cap') {W : World}
    (hW : [Obj.cells (pvCells ⟨p, a, cap⟩).toArray 50, .cells (pvCells ⟨q, a', cap'⟩).toArray 50].foldl World.alloc w = W) :
    (∀ W', Below (w.heap.size + 2) W W' → (∀ i v, (pvCells ⟨p, a, cap⟩)[i]? = some v → W'.cell? ⟨w.heap.size, i, none⟩ = some v) ∧ (∀ i v, (pvCells ⟨q, a', cap'⟩)[i]? = some v → W'.cell? ⟨w.heap.size + 1, i, none⟩ = some v) ∧
      PatAt (LT w.heap.size) W' p a cap ∧ PatAt (LT w.heap.size) W' q a' cap' ∧ w.heap.size + 2 ≤ W'.heap.size ∧ Below w.heap.size w W') ∧ W.heap.size = w.heap.size + 2 := by
  have hs : W.heap.size = w.heap.size + 2 := by rw [← hW]; exact allocs_size _ _
  have hb : Below w.heap.size w W := by rw [← hW]; exact allocs_below _ _ (Nat.le_refl _)
  have h0 : W.heap[w.heap.size]? = some (.cells (pvCells ⟨p, a, cap⟩).toArray 50) := by rw [← hW]; exact allocs_get _ w 0 _ rfl
  have h1 : W.heap[w.heap.size + 1]? = some (.cells (pvCells ⟨q, a', cap'⟩).toArray 50) := by rw [← hW]; exact allocs_get _ w 1 _ rfl
  refine ⟨fun W' hb' => ?_, hs⟩
  have hbw : Below w.heap.size w W' := hb.trans (hb'.mono (by omega))
  refine ⟨fun i v hv => row_cell ((hb'.block _ (by omega)).trans h0) hv, fun i v hv => row_cell ((hb'.block _ (by omega)).trans h1) hv, hp.below hbw (fun _ h => h) (fun _ h => h), hq.below hbw (fun _ h => h) (fun _ h => h), by have := hb'.size; omega, hbw⟩
set_option maxRecDepth 100000 in
set_option maxHeartbeats 2000000 in
theorem lpats_any (p : P) (a : Option Addr) (cap : Nat) (q : P) (a' : Option Addr) (cap' : Nat) (w : World) (hp : PatAt (LT w.heap.size) w p a cap) (hq : PatAt (LT w.heap.size) w q a' cap') :
    Calls Tryz.prog 5 #[pv p a cap, pv q a' cap'] w fun e w' => e = .returned (.bool true) ∧ Below w.heap.size w w' := by
  obtain ⟨W0, hW0⟩ : ∃ W, [Obj.cells (pvCells ⟨p, a, cap⟩).toArray 50, .cells (pvCells ⟨q, a', cap'⟩).toArray 50].foldl World.alloc w = W := ⟨_, rfl⟩
  obtain ⟨hfacts, hsz0⟩ := pbox_two hp hq hW0
  have hcp : ∀ W', Below (w.heap.size + 2) W0 W' → W'.cell? ⟨w.heap.size, 0, none⟩ = some (.int .i64 p.kind) ∧ W'.cell? ⟨w.heap.size, 1, none⟩ = some (.int .i64 p.frm) ∧ W'.cell? ⟨w.heap.size, 2, none⟩ = some (.int .i64 p.til) ∧ W'.cell? ⟨w.heap.size, 3, none⟩ = some (.string ⟨p.nm.toArray⟩) ∧ W'.cell? ⟨w.heap.size, 4, none⟩ = some (.int .i64 p.num) ∧ W'.cell? ⟨w.heap.size, 5, none⟩ = some (.string ⟨p.s.toArray⟩) ∧ W'.cell? ⟨w.heap.size, 6, none⟩ = some (.slice a p.kids.length cap) := fun W' h => by
    obtain ⟨h1, _⟩ := hfacts W' h
    exact ⟨h1 0 _ rfl, h1 1 _ rfl, h1 2 _ rfl, h1 3 _ rfl, h1 4 _ rfl, h1 5 _ rfl, h1 6 _ rfl⟩
  have hcq : ∀ W', Below (w.heap.size + 2) W0 W' → W'.cell? ⟨w.heap.size + 1, 0, none⟩ = some (.int .i64 q.kind) ∧ W'.cell? ⟨w.heap.size + 1, 1, none⟩ = some (.int .i64 q.frm) ∧ W'.cell? ⟨w.heap.size + 1, 2, none⟩ = some (.int .i64 q.til) ∧ W'.cell? ⟨w.heap.size + 1, 3, none⟩ = some (.string ⟨q.nm.toArray⟩) ∧ W'.cell? ⟨w.heap.size + 1, 4, none⟩ = some (.int .i64 q.num) ∧ W'.cell? ⟨w.heap.size + 1, 5, none⟩ = some (.string ⟨q.s.toArray⟩) ∧ W'.cell? ⟨w.heap.size + 1, 6, none⟩ = some (.slice a' q.kids.length cap') := fun W' h => by
    obtain ⟨_, h1, _⟩ := hfacts W' h
    exact ⟨h1 0 _ rfl, h1 1 _ rfl, h1 2 _ rfl, h1 3 _ rfl, h1 4 _ rfl, h1 5 _ rfl, h1 6 _ rfl⟩
  have hle : ∀ W', Below (w.heap.size + 2) W0 W' → w.heap.size + 2 ≤ W'.heap.size := fun W' h => (hfacts W' h).2.2.2.2.1
  have hbw : ∀ W', Below (w.heap.size + 2) W0 W' → Below w.heap.size w W' := fun W' h => (hfacts W' h).2.2.2.2.2
  have hpp : ∀ W', Below (w.heap.size + 2) W0 W' → PatAt (LT W'.heap.size) W' p a cap := fun W' h => (hfacts W' h).2.2.1.moved (fun _ _ _ => rfl) (fun b hb => (Nat.lt_of_lt_of_le hb (by have := hle W' h; omega) : b < W'.heap.size))
  have hqq : ∀ W', Below (w.heap.size + 2) W0 W' → PatAt (LT W'.heap.size) W' q a' cap' := fun W' h => (hfacts W' h).2.2.2.1.moved (fun _ _ _ => rfl) (fun b hb => (Nat.lt_of_lt_of_le hb (by have := hle W' h; omega) : b < W'.heap.size))
  obtain ⟨hvp, hhvp⟩ : ∃ x, decide (400 < Tr.cnt p 0) = x := ⟨_, rfl⟩
  obtain ⟨hvq, hhvq⟩ : ∃ x, decide (400 < Tr.cnt q 0) = x := ⟨_, rfl⟩
  obtain ⟨rp, hrp⟩ : ∃ x, Tr.right p = x := ⟨_, rfl⟩
  obtain ⟨rq, hrq⟩ : ∃ x, Tr.right q = x := ⟨_, rfl⟩
  have hhp := fun W' h => heavyPat_any p a cap W' (hpp W' h)
  have hhq := fun W' h => heavyPat_any q a' cap' W' (hqq W' h)
  have hip := fun W' h (hs : Tr.short p = true ∧ Tr.size p ≤ 401) => isPat_any p a cap W' hs.1 (by omega) (hpp W' h)
  have hiq := fun W' h (hs : Tr.short q = true ∧ Tr.size q ≤ 401) => isPat_any q a' cap' W' hs.1 (by omega) (hqq W' h)
  have hnp := fun W' h (hs : Tr.short p = true ∧ Tr.size p ≤ 401) => rNames_any p a cap W' (by omega) (hpp W' h)
  have hnq := fun W' h (hs : Tr.short q = true ∧ Tr.size q ≤ 401) => rNames_any q a' cap' W' (by omega) (hqq W' h)
  have hkp := fun W' h (hs : Tr.short p = true ∧ Tr.size p ≤ 401) => checkPat_any p a cap W' (by omega) hs.1 (hpp W' h)
  unfold pv at hhp hhq hip hiq hnp hnq hkp ⊢
  rw [hhvp] at hhp; rw [hhvq] at hhq; rw [hrp] at hip hkp; rw [hrq] at hiq
  have hsp : hvp = false → Tr.short p = true ∧ Tr.size p ≤ 401 := fun h => small_of (hhvp.trans h)
  have hsq : hvq = false → Tr.short q = true ∧ Tr.size q ≤ 401 := fun h => small_of (hhvq.trans h)
  have HCP := Lib.hid hcp; have HCQ := Lib.hid hcq; have HLE := Lib.hid hle; have HBW := Lib.hid hbw; have HPP := Lib.hid hpp; have HQQ := Lib.hid hqq; have HHP := Lib.hid hhp; have HHQ := Lib.hid hhq; have HIP := Lib.hid hip; have HIQ := Lib.hid hiq; have HNP := Lib.hid hnp; have HNQ := Lib.hid hnq; have HKP := Lib.hid hkp
  have HSP := Lib.hid hsp; have HSQ := Lib.hid hsq; have HRP := Lib.hid hrp; have HRQ := Lib.hid hrq
  have HW0 := Lib.hid (show (w.alloc (.cells #[.int .i64 p.kind, .int .i64 p.frm, .int .i64 p.til, .string ⟨p.nm.toArray⟩, .int .i64 p.num, .string ⟨p.s.toArray⟩, .slice a p.kids.length cap] 50)).alloc (.cells #[.int .i64 q.kind, .int .i64 q.frm, .int .i64 q.til, .string ⟨q.nm.toArray⟩, .int .i64 q.num, .string ⟨q.s.toArray⟩, .slice a' q.kids.length cap'] 50) = W0 from hW0)
  have HB0 := Lib.hid (show Below (w.heap.size + 2) W0 W0 from Below.refl _ _)
  have HSZ0 := Lib.hid hsz0
  have HF := Lib.hid hfacts
  clear hfacts hcp hcq hle hbw hpp hqq hhp hhq hip hiq hnp hnq hkp hsp hsq hW0 hsz0 hp hq hhvp hhvq hrp hrq
  go_enter Tryz.func5, Tryz.ntmps5
  go_upto_region 1 with fail
  rw [HW0.out]
  obtain ⟨c0, c1, c2, c3, c4, c5, c6⟩ := HCP.out _ HB0.out
  go_wp2_with fail
  refine (HHP.out _ HB0.out).mono ?_
  clear c0 c1 c2 c3 c4 c5 c6
  rintro e w1 ⟨rfl, hb1⟩
  have HB1 := Lib.hid (HB0.out.trans (hb1.mono (HLE.out _ HB0.out)))
  clear hb1
  cases hvp with
  | true =>
    go_wp2_with fail
    go_ret
    exact ⟨rfl, HBW.out _ HB1.out⟩
  | false =>
    obtain ⟨d0, d1, d2, d3, d4, d5, d6⟩ := HCQ.out _ HB1.out
    go_wp2_with fail
    refine (HHQ.out _ HB1.out).mono ?_
    clear d0 d1 d2 d3 d4 d5 d6
    rintro e w2 ⟨rfl, hb2⟩
    have HB2 := Lib.hid (HB1.out.trans (hb2.mono (HLE.out _ HB1.out)))
    clear hb2
    cases hvq with
    | true =>
      go_wp2_with fail
      go_ret
      exact ⟨rfl, HBW.out _ HB2.out⟩
    | false =>
      have HSP2 := Lib.hid (HSP.out trivial); have HSQ2 := Lib.hid (HSQ.out rfl)
      obtain ⟨c0, c1, c2, c3, c4, c5, c6⟩ := HCP.out _ HB2.out
      go_wp2_with fail
      refine (HIP.out _ HB2.out HSP2.out).mono ?_
      clear c0 c1 c2 c3 c4 c5 c6
      rintro e w3 ⟨rfl, hb3⟩
      have HB3 := Lib.hid (HB2.out.trans (hb3.mono (HLE.out _ HB2.out)))
      clear hb3
      obtain ⟨c0, c1, c2, c3, c4, c5, c6⟩ := HCP.out _ HB3.out
      obtain ⟨d0, d1, d2, d3, d4, d5, d6⟩ := HCQ.out _ HB3.out
      have hl3 := HLE.out _ HB3.out
      have l0 : w.heap.size < w3.heap.size := by omega
      have l1 : w.heap.size + 1 < w3.heap.size := by omega
      go_upto_region 6 with fail
      obtain ⟨W4, hW4⟩ : ∃ W4, (((w3.alloc (.cells #[.int .i64 p.kind, .int .i64 p.frm, .int .i64 p.til, .string ⟨p.nm.toArray⟩, .int .i64 p.num, .string ⟨p.s.toArray⟩, .slice a p.kids.length cap, .int .i64 q.kind, .int .i64 q.frm, .int .i64 q.til, .string ⟨q.nm.toArray⟩, .int .i64 q.num, .string ⟨q.s.toArray⟩, .slice a' q.kids.length cap'] 50)).alloc (.cells #[.int .i64 7, .int .i64 0, .int .i64 0, .string ⟨#[]⟩, .int .i64 0, .string ⟨#[]⟩, .slice (some ⟨w3.heap.size, 0, none⟩) 2 2] 50)).alloc (.cells #[.int .i64 q.kind, .int .i64 q.frm, .int .i64 q.til, .string ⟨q.nm.toArray⟩, .int .i64 q.num, .string ⟨q.s.toArray⟩, .slice a' q.kids.length cap', .int .i64 p.kind, .int .i64 p.frm, .int .i64 p.til, .string ⟨p.nm.toArray⟩, .int .i64 p.num, .string ⟨p.s.toArray⟩, .slice a p.kids.length cap] 50)).alloc (.cells #[.int .i64 9, .int .i64 0, .int .i64 0, .string ⟨#[]⟩, .int .i64 0, .string ⟨#[]⟩, .slice (some ⟨w3.heap.size + 1 + 1, 0, none⟩) 2 2] 50) = W4 := ⟨_, rfl⟩
      rw [hW4]
      have hW4' : [Obj.cells #[.int .i64 p.kind, .int .i64 p.frm, .int .i64 p.til, .string ⟨p.nm.toArray⟩, .int .i64 p.num, .string ⟨p.s.toArray⟩, .slice a p.kids.length cap, .int .i64 q.kind, .int .i64 q.frm, .int .i64 q.til, .string ⟨q.nm.toArray⟩, .int .i64 q.num, .string ⟨q.s.toArray⟩, .slice a' q.kids.length cap'] 50, .cells #[.int .i64 7, .int .i64 0, .int .i64 0, .string ⟨#[]⟩, .int .i64 0, .string ⟨#[]⟩, .slice (some ⟨w3.heap.size, 0, none⟩) 2 2] 50, .cells #[.int .i64 q.kind, .int .i64 q.frm, .int .i64 q.til, .string ⟨q.nm.toArray⟩, .int .i64 q.num, .string ⟨q.s.toArray⟩, .slice a' q.kids.length cap', .int .i64 p.kind, .int .i64 p.frm, .int .i64 p.til, .string ⟨p.nm.toArray⟩, .int .i64 p.num, .string ⟨p.s.toArray⟩, .slice a p.kids.length cap] 50, .cells #[.int .i64 9, .int .i64 0, .int .i64 0, .string ⟨#[]⟩, .int .i64 0, .string ⟨#[]⟩, .slice (some ⟨w3.heap.size + 1 + 1, 0, none⟩) 2 2] 50].foldl World.alloc w3 = W4 := by rw [← hW4]; simp only [List.foldl]
      clear hW4 c0 c1 c2 c3 c4 c5 c6 d0 d1 d2 d3 d4 d5 d6
      have hs4 : W4.heap.size = w3.heap.size + 4 := by rw [← hW4']; exact allocs_size _ _
      have hb4 : Below w3.heap.size w3 W4 := by rw [← hW4']; exact allocs_below _ _ (Nat.le_refl _)
      have g0 : W4.heap[w3.heap.size]? = some (.cells #[.int .i64 p.kind, .int .i64 p.frm, .int .i64 p.til, .string ⟨p.nm.toArray⟩, .int .i64 p.num, .string ⟨p.s.toArray⟩, .slice a p.kids.length cap, .int .i64 q.kind, .int .i64 q.frm, .int .i64 q.til, .string ⟨q.nm.toArray⟩, .int .i64 q.num, .string ⟨q.s.toArray⟩, .slice a' q.kids.length cap'] 50) := by rw [← hW4']; exact allocs_get _ w3 0 _ rfl
      have g1 : W4.heap[w3.heap.size + 1]? = some (.cells #[.int .i64 7, .int .i64 0, .int .i64 0, .string ⟨#[]⟩, .int .i64 0, .string ⟨#[]⟩, .slice (some ⟨w3.heap.size, 0, none⟩) 2 2] 50) := by rw [← hW4']; exact allocs_get _ w3 1 _ rfl
      have g2 : W4.heap[w3.heap.size + 1 + 1]? = some (.cells #[.int .i64 q.kind, .int .i64 q.frm, .int .i64 q.til, .string ⟨q.nm.toArray⟩, .int .i64 q.num, .string ⟨q.s.toArray⟩, .slice a' q.kids.length cap', .int .i64 p.kind, .int .i64 p.frm, .int .i64 p.til, .string ⟨p.nm.toArray⟩, .int .i64 p.num, .string ⟨p.s.toArray⟩, .slice a p.kids.length cap] 50) := by rw [← hW4']; exact allocs_get _ w3 2 _ rfl
      have g3 : W4.heap[w3.heap.size + 1 + 1 + 1]? = some (.cells #[.int .i64 9, .int .i64 0, .int .i64 0, .string ⟨#[]⟩, .int .i64 0, .string ⟨#[]⟩, .slice (some ⟨w3.heap.size + 1 + 1, 0, none⟩) 2 2] 50) := by rw [← hW4']; exact allocs_get _ w3 3 _ rfl
      clear hW4'
      have hup : ∀ W', Below (w3.heap.size + 4) W4 W' → Below (w.heap.size + 2) W0 W' := fun W' h => HB3.out.trans ((hb4.mono hl3).trans (h.mono (by omega)))
      have hle4 : ∀ W', Below (w3.heap.size + 4) W4 W' → w3.heap.size + 4 ≤ W'.heap.size := fun W' h => by have := h.size; omega
      have hcb : ∀ W', Below (w3.heap.size + 4) W4 W' → W'.cell? ⟨w3.heap.size + 1, 0, none⟩ = some (.int .i64 7) ∧ W'.cell? ⟨w3.heap.size + 1, 1, none⟩ = some (.int .i64 0) ∧ W'.cell? ⟨w3.heap.size + 1, 2, none⟩ = some (.int .i64 0) ∧ W'.cell? ⟨w3.heap.size + 1, 3, none⟩ = some (.string ⟨#[]⟩) ∧ W'.cell? ⟨w3.heap.size + 1, 4, none⟩ = some (.int .i64 0) ∧ W'.cell? ⟨w3.heap.size + 1, 5, none⟩ = some (.string ⟨#[]⟩) ∧ W'.cell? ⟨w3.heap.size + 1, 6, none⟩ = some (.slice (some ⟨w3.heap.size, 0, none⟩) 2 2) := fun W' h => by
        have h1 := (h.block _ (show w3.heap.size + 1 < w3.heap.size + 4 by omega)).trans g1
        exact ⟨cell_box h1 rfl rfl, cell_box h1 rfl rfl, cell_box h1 rfl rfl, cell_box h1 rfl rfl, cell_box h1 rfl rfl, cell_box h1 rfl rfl, cell_box h1 rfl rfl⟩
      have hcl : ∀ W', Below (w3.heap.size + 4) W4 W' → W'.cell? ⟨w3.heap.size + 1 + 1 + 1, 0, none⟩ = some (.int .i64 9) ∧ W'.cell? ⟨w3.heap.size + 1 + 1 + 1, 1, none⟩ = some (.int .i64 0) ∧ W'.cell? ⟨w3.heap.size + 1 + 1 + 1, 2, none⟩ = some (.int .i64 0) ∧ W'.cell? ⟨w3.heap.size + 1 + 1 + 1, 3, none⟩ = some (.string ⟨#[]⟩) ∧ W'.cell? ⟨w3.heap.size + 1 + 1 + 1, 4, none⟩ = some (.int .i64 0) ∧ W'.cell? ⟨w3.heap.size + 1 + 1 + 1, 5, none⟩ = some (.string ⟨#[]⟩) ∧ W'.cell? ⟨w3.heap.size + 1 + 1 + 1, 6, none⟩ = some (.slice (some ⟨w3.heap.size + 1 + 1, 0, none⟩) 2 2) := fun W' h => by
        have h1 := (h.block _ (show w3.heap.size + 1 + 1 + 1 < w3.heap.size + 4 by omega)).trans g3
        exact ⟨cell_box h1 rfl rfl, cell_box h1 rfl rfl, cell_box h1 rfl rfl, cell_box h1 rfl rfl, cell_box h1 rfl rfl, cell_box h1 rfl rfl, cell_box h1 rfl rfl⟩
      have hpb : ∀ W', Below (w3.heap.size + 4) W4 W' → PatAt (LT W'.heap.size) W' (pairP p q) (some ⟨w3.heap.size, 0, none⟩) 2 := fun W' h => by
        have hu := hup W' h
        refine ⟨⟨(show I64 (7 : Int) from i64_small (by omega)), (show I64 (0 : Int) from i64_small (by omega))⟩, Nat.le_refl _, by unfold maxLen; show 2 ≤ _; omega, ?_⟩
        refine pl_row (G := LT W'.heap.size) (b := w3.heap.size) [⟨p, a, cap⟩, ⟨q, a', cap'⟩] ((h.block _ (by omega)).trans g0) (by have := hle4 W' h; show _ < _; omega) (fun x hx => ?_)
        simp only [List.mem_cons, List.not_mem_nil, or_false] at hx
        rcases hx with rfl | rfl
        · exact HPP.out W' hu
        · exact HQQ.out W' hu
      have hpl : ∀ W', Below (w3.heap.size + 4) W4 W' → PatAt (LT W'.heap.size) W' (consP q p) (some ⟨w3.heap.size + 1 + 1, 0, none⟩) 2 := fun W' h => by
        have hu := hup W' h
        refine ⟨⟨(show I64 (9 : Int) from i64_small (by omega)), (show I64 (0 : Int) from i64_small (by omega))⟩, Nat.le_refl _, by unfold maxLen; show 2 ≤ _; omega, ?_⟩
        refine pl_row (G := LT W'.heap.size) (b := w3.heap.size + 1 + 1) [⟨q, a', cap'⟩, ⟨p, a, cap⟩] ((h.block _ (by omega)).trans g2) (by have := hle4 W' h; show _ < _; omega) (fun x hx => ?_)
        simp only [List.mem_cons, List.not_mem_nil, or_false] at hx
        rcases hx with rfl | rfl
        · exact HQQ.out W' hu
        · exact HPP.out W' hu
      obtain ⟨mb, hmb⟩ : ∃ x, mayK p q (Tr.names p).length = x := ⟨_, rfl⟩
      have hkb := fun W' h => checkPat_any (pairP p q) (some ⟨w3.heap.size, 0, none⟩) 2 W' (two_small 7 HSP2.out HSQ2.out).2 (two_small 7 HSP2.out HSQ2.out).1 (hpb W' h)
      have hkl := fun W' h => checkPat_any (consP q p) (some ⟨w3.heap.size + 1 + 1, 0, none⟩) 2 W' (two_small 9 HSQ2.out HSP2.out).2 (two_small 9 HSQ2.out HSP2.out).1 (hpl W' h)
      rw [pair_right, hmb] at hkb; rw [cons_right, hmb] at hkl
      obtain ⟨ep, hep⟩ : ∃ x, errOf rp = x := ⟨_, rfl⟩
      obtain ⟨eb, heb⟩ : ∃ x, errOf mb = x := ⟨_, rfl⟩
      have HEP := Lib.hid hep; have HEB := Lib.hid heb
      have hkp := fun W' h => HKP.out W' h HSP2.out
      rw [hep] at hkp; rw [heb] at hkb hkl
      replace hkb : ∀ W', Below (w3.heap.size + 4) W4 W' → Calls Tryz.prog 39 #[.agg #[.int .i64 7, .int .i64 0, .int .i64 0, .string ⟨#[]⟩, .int .i64 0, .string ⟨#[]⟩, .slice (some ⟨w3.heap.size, 0, none⟩) 2 2]] W' fun e w' => e = .returned (.int .i64 eb) ∧ Below W'.heap.size W' w' := hkb
      replace hkl : ∀ W', Below (w3.heap.size + 4) W4 W' → Calls Tryz.prog 39 #[.agg #[.int .i64 9, .int .i64 0, .int .i64 0, .string ⟨#[]⟩, .int .i64 0, .string ⟨#[]⟩, .slice (some ⟨w3.heap.size + 1 + 1, 0, none⟩) 2 2]] W' fun e w' => e = .returned (.int .i64 eb) ∧ Below W'.heap.size W' w' := hkl
      have hwk : ∀ W' : World, Calls Tryz.prog 30 #[] W' fun e w' => e = .returned (.bool true) ∧ Below W'.heap.size W' w' := wakes_any
      have HUP := Lib.hid hup; have HLE4 := Lib.hid hle4; have HCB := Lib.hid hcb; have HCL := Lib.hid hcl; have HKB := Lib.hid hkb; have HKL := Lib.hid hkl; have HKPP := Lib.hid hkp; have HWK := Lib.hid hwk; have HMB := Lib.hid hmb
      have HB4 := Lib.hid (show Below (w3.heap.size + 4) W4 W4 from Below.refl _ _)
      clear hup hle4 hcb hcl hpb hpl hkb hkl hkp hwk hmb hep heb g0 g1 g2 g3 hs4 hb4 hl3 l0 l1
      as_aux_lemma =>
        go_cut [8] (fun v wx => v = .bool (rp && rq) ∧ Below (w3.heap.size + 4) W4 wx)
        case first =>
          cases rp with
          | false =>
            go_wp2_with fail
            go_meet
            exact ⟨rfl, HB4.out⟩
          | true =>
            obtain ⟨d0, d1, d2, d3, d4, d5, d6⟩ := HCQ.out _ (HUP.out _ HB4.out)
            go_wp2_with fail
            refine (HIQ.out _ (HUP.out _ HB4.out) HSQ2.out).mono ?_
            clear d0 d1 d2 d3 d4 d5 d6
            rintro e w5 ⟨rfl, hb5⟩
            go_wp2_with fail
            go_meet
            exact ⟨by simp, HB4.out.trans (hb5.mono (HLE4.out _ HB4.out))⟩
        case rest =>
          obtain ⟨rfl, hbc⟩ := hcut
          have HBC := Lib.hid hbc
          clear hbc
          go_upto_region 7 with fail
          have HBD := Lib.hid HBC.out.drew
          obtain ⟨c0, c1, c2, c3, c4, c5, c6⟩ := HCP.out _ (HUP.out _ HBD.out)
          obtain ⟨d0, d1, d2, d3, d4, d5, d6⟩ := HCQ.out _ (HUP.out _ HBD.out)
          refine wp_region_seq [(0, false), (1, false), (0, true), (0, true), (0, false), (0, false)] (by kernel_rfl) (by kernel_rfl) (by kernel_rfl) (fun _ _ _ d _ h => by cases d <;> exact h) ?_
          repeat
            first
            | (first | with_reducible refine sp0 (fun K hK => ?_) | with_reducible refine sp1 (fun K hK => ?_) | with_reducible refine sp2 (fun K hK => ?_) | with_reducible refine sp3 (fun K hK => ?_) | with_reducible refine sp4 (fun K hK => ?_)
               go_simp
               first
               | (with_reducible refine hK _ _ ?_; clear hK K)
               | (with_reducible apply Exists.intro
                  refine ⟨fun x hx => ?_, hK _ _ ?_⟩
                  first
                    | (with_reducible exact rfl)
                    | (have y0 := keepc hx c0; have y1 := keepc hx c1; have y2 := keepc hx c2; have y3 := keepc hx c3; have y4 := keepc hx c4; have y5 := keepc hx c5; have y6 := keepc hx c6; have y7 := keepc hx d0; have y8 := keepc hx d1; have y9 := keepc hx d2; have y10 := keepc hx d3; have y11 := keepc hx d4; have y12 := keepc hx d5; have y13 := keepc hx d6; go_simp; done)
                    | (have y0 := keepc hx c0; have y1 := keepc hx c1; have y2 := keepc hx c2; have y3 := keepc hx c3; have y4 := keepc hx c4; have y5 := keepc hx c5; have y6 := keepc hx c6; have y7 := keepc hx d0; have y8 := keepc hx d1; have y9 := keepc hx d2; have y10 := keepc hx d3; have y11 := keepc hx d4; have y12 := keepc hx d5; have y13 := keepc hx d6; go_simp; with_reducible exact rfl)
                  clear hK K))
            | (first | with_reducible refine sk0 ?_ (fun K hK => ?_) | with_reducible refine sk1 ?_ (fun K hK => ?_) | with_reducible refine sk2 ?_ (fun K hK => ?_) | with_reducible refine sk3 ?_ (fun K hK => ?_) | with_reducible refine sk4 ?_ (fun K hK => ?_)
               rfl
               go_simp
               with_reducible refine hK _ _ ?_
               clear hK K)
          clear c0 c1 c2 c3 c4 c5 c6 d0 d1 d2 d3 d4 d5 d6
          first | with_reducible refine sc0 (fun K hK => ?_) | with_reducible refine sc1 (fun K hK => ?_) | with_reducible refine sc2 (fun K hK => ?_) | with_reducible refine sc3 (fun K hK => ?_) | with_reducible refine sc4 (fun K hK => ?_)
          go_simp
          refine (HNP.out _ (HUP.out _ HBD.out) HSP2.out).mono ?_
          rintro e w5 ⟨v5, rfl, own5, hb5⟩
          obtain ⟨a5, k5, rfl⟩ := own_shapeT own5
          refine ⟨hb5, hK _ _ ?_⟩
          clear hK K
          have HB5 := Lib.hid (HBD.out.trans (hb5.mono (HLE4.out _ HBD.out)))
          have hr5 := (SRow.of_own own5).2
          clear own5 hb5
          repeat
            first
            | (first | with_reducible refine sp0 (fun K hK => ?_) | with_reducible refine sp1 (fun K hK => ?_) | with_reducible refine sp2 (fun K hK => ?_) | with_reducible refine sp3 (fun K hK => ?_) | with_reducible refine sp4 (fun K hK => ?_)
               go_simp
               first
               | (with_reducible refine hK _ _ ?_; clear hK K)
               | (with_reducible apply Exists.intro
                  refine ⟨fun x hx => ?_, hK _ _ ?_⟩
                  first
                    | (with_reducible exact rfl)
                  clear hK K))
            | (first | with_reducible refine sk0 ?_ (fun K hK => ?_) | with_reducible refine sk1 ?_ (fun K hK => ?_) | with_reducible refine sk2 ?_ (fun K hK => ?_) | with_reducible refine sk3 ?_ (fun K hK => ?_) | with_reducible refine sk4 ?_ (fun K hK => ?_)
               rfl
               go_simp
               with_reducible refine hK _ _ ?_
               clear hK K)
          first | with_reducible refine sc0 (fun K hK => ?_) | with_reducible refine sc1 (fun K hK => ?_) | with_reducible refine sc2 (fun K hK => ?_) | with_reducible refine sc3 (fun K hK => ?_) | with_reducible refine sc4 (fun K hK => ?_)
          go_simp
          refine (HNQ.out _ (HUP.out _ HB5.out) HSQ2.out).mono ?_
          rintro e w6 ⟨v6, rfl, own6, hb6⟩
          obtain ⟨a6, k6, rfl⟩ := own_shapeT own6
          refine ⟨hb6, hK _ _ ?_⟩
          clear hK K
          have HB6 := Lib.hid (HB5.out.trans (hb6.mono (HLE4.out _ HB5.out)))
          have HR6 := Lib.hid (SRow.of_own own6).2
          have HR5 := Lib.hid (hr5.below hb6 (Nat.le_refl _))
          clear own6 hb6 hr5
          repeat
            first
            | (first | with_reducible refine sp0 (fun K hK => ?_) | with_reducible refine sp1 (fun K hK => ?_) | with_reducible refine sp2 (fun K hK => ?_) | with_reducible refine sp3 (fun K hK => ?_) | with_reducible refine sp4 (fun K hK => ?_)
               go_simp
               first
               | (with_reducible refine hK _ _ ?_; clear hK K)
               | (with_reducible apply Exists.intro
                  refine ⟨fun x hx => ?_, hK _ _ ?_⟩
                  first
                    | (with_reducible exact rfl)
                  clear hK K))
            | (first | with_reducible refine sk0 ?_ (fun K hK => ?_) | with_reducible refine sk1 ?_ (fun K hK => ?_) | with_reducible refine sk2 ?_ (fun K hK => ?_) | with_reducible refine sk3 ?_ (fun K hK => ?_) | with_reducible refine sk4 ?_ (fun K hK => ?_)
               rfl
               go_simp
               with_reducible refine hK _ _ ?_
               clear hK K)
          with_reducible refine seq_nil ?_
          obtain ⟨m, hm⟩ : ∃ m, (Tr.names p).length = m := ⟨_, rfl⟩
          have hm9 : m ≤ 401 := by have := names_len p; have := HSP2.out.2; omega
          have hn9 : (Tr.names q).length ≤ 1000000 := by have := names_len q; have := HSQ2.out.2; omega
          have hmb2 := HMB.out
          rw [hm] at hmb2 ⊢
          have HMB2 := Lib.hid hmb2
          clear hmb2 HMB
          have hhas := fun (W' : World) (h : Below w6.heap.size w6 W') (s : List UInt8) => rhas_any (Tr.names q) a6 k6 s W' hn9 (HR6.out.below h (Nat.le_refl _))
          obtain ⟨mq, hmq⟩ : ∃ mq, (Tr.names q).length = mq := ⟨_, rfl⟩
          rw [hmq] at hhas ⊢
          have HHAS := Lib.hid hhas; have HM := Lib.hid hm
          clear hhas hn9 hmq hm
          go_wp2_with fail
          go_loopg [8, 11] m (fun gk v8 v11 wr => ∃ k : Nat, k ≤ m ∧ v8 = .bool (mayK p q k) ∧ v11 = .int .i64 (k : Int) ∧ Below w6.heap.size w6 wr ∧ gk = m - k)
          case atStart => exact ⟨0, Nat.zero_le _, by rw [mayK_zero, HRP.out, HRQ.out], rfl, Below.refl _ _, rfl⟩
          case round =>
            obtain ⟨k, hk, rfl, rfl, hb, rfl⟩ := hrel
            have HB := Lib.hid hb
            clear hb
            by_cases hlt : k < m
            · have hkl : k < (Tr.names p).length := by rw [HM.out]; exact hlt
              rcases HR5.out.below HB.out (Nat.le_refl _) with h0 | ⟨b, o, e, hbb, hc⟩
              · rw [h0] at hkl; simp at hkl
              subst e
              have hck := hc k hkl
              unfold strV at hck
              have hs9 := mayK_succ (p := p) (q := q) hkl
              obtain ⟨x, hx⟩ : ∃ x, (Tr.names p)[k] = x := ⟨_, rfl⟩
              rw [hx] at hck hs9
              obtain ⟨bq, hbq⟩ : ∃ b, decide (x ∈ Tr.names q) = b := ⟨_, rfl⟩
              rw [hbq] at hs9
              have hhas := fun W' h => HHAS.out W' h x
              rw [hbq] at hhas
              have HH := Lib.hid hhas; have HS9 := Lib.hid hs9
              clear hhas hs9 hbq hx hc hkl
              obtain ⟨mk, hmk⟩ : ∃ b, mayK p q k = b := ⟨_, rfl⟩
              rw [hmk]
              have HMK := Lib.hid hmk
              clear hmk
              cases mk with
              | false =>
                go_wp2_with fail
                go_roundg (m - (k + 1))
                case measure => omega
                case rel => exact ⟨k + 1, by omega, by rw [HS9.out, HMK.out]; rfl, by first | rfl | go_num, HB.out, rfl⟩
              | true =>
                go_wp2_with fail
                refine (HH.out _ HB.out).mono ?_
                rintro e w7 ⟨rfl, rfl⟩
                go_wp2_with fail
                go_roundg (m - (k + 1))
                case measure => omega
                case rel => exact ⟨k + 1, by omega, by rw [HS9.out, HMK.out]; simp, by first | rfl | go_num, HB.out, rfl⟩
            · have hkm : k = m := by omega
              subst hkm
              rw [HMB2.out]
              have HXR := Lib.hid (HB6.out.trans (HB.out.mono (HLE4.out _ HB6.out)))
              clear HB HHAS HR5 HR6 HB5 HB6 HBC HM hlt hk hm9 HMB2
              go_upto_region 12 with fail
              have HX0 := Lib.hid HXR.out.drew
              have hep := HEP.out; have heb := HEB.out
              cases rp with
              | true =>
                obtain rfl : ep = 0 := hep.symm
                cases mb with
                | true =>
                  obtain rfl : eb = 0 := heb.symm
                  as_aux_lemma =>
                    obtain ⟨c0, c1, c2, c3, c4, c5, c6⟩ := HCP.out _ (HUP.out _ HX0.out)
                    obtain ⟨b0, b1, b2, b3, b4, b5, b6⟩ := HCB.out _ HX0.out
                    refine wp_region_seq [(0, false), (2, false), (0, true), (0, false), (0, false), (0, false), (0, false), (2, false), (0, true), (0, false), (0, false), (0, false), (0, false), (0, false), (1, false), (0, true), (0, true), (0, false), (0, false), (0, false), (0, false), (0, false), (0, false), (0, true), (0, false), (0, false), (0, false), (0, false), (0, true), (0, false), (0, false)] (by kernel_rfl) (by kernel_rfl) (by kernel_rfl) (fun _ _ _ d _ h => by cases d <;> exact h) ?_
                    repeat
                      first
                      | (first | with_reducible refine sp0 (fun K hK => ?_) | with_reducible refine sp1 (fun K hK => ?_) | with_reducible refine sp2 (fun K hK => ?_) | with_reducible refine sp3 (fun K hK => ?_) | with_reducible refine sp4 (fun K hK => ?_)
                         go_simp
                         first
                         | (with_reducible refine hK _ _ ?_; clear hK K)
                         | (with_reducible apply Exists.intro
                            refine ⟨fun x hx => ?_, hK _ _ ?_⟩
                            first
                              | (with_reducible exact rfl)
                              | (have y0 := keepc hx c0; have y1 := keepc hx c1; have y2 := keepc hx c2; have y3 := keepc hx c3; have y4 := keepc hx c4; have y5 := keepc hx c5; have y6 := keepc hx c6; go_simp; done)
                              | (have y0 := keepc hx c0; have y1 := keepc hx c1; have y2 := keepc hx c2; have y3 := keepc hx c3; have y4 := keepc hx c4; have y5 := keepc hx c5; have y6 := keepc hx c6; go_simp; with_reducible exact rfl)
                            clear hK K))
                      | (first | with_reducible refine sk0 ?_ (fun K hK => ?_) | with_reducible refine sk1 ?_ (fun K hK => ?_) | with_reducible refine sk2 ?_ (fun K hK => ?_) | with_reducible refine sk3 ?_ (fun K hK => ?_) | with_reducible refine sk4 ?_ (fun K hK => ?_)
                         rfl
                         go_simp
                         with_reducible refine hK _ _ ?_
                         clear hK K)
                    clear c0 c1 c2 c3 c4 c5 c6 b0 b1 b2 b3 b4 b5 b6
                    first | with_reducible refine sc0 (fun K hK => ?_) | with_reducible refine sc1 (fun K hK => ?_) | with_reducible refine sc2 (fun K hK => ?_) | with_reducible refine sc3 (fun K hK => ?_) | with_reducible refine sc4 (fun K hK => ?_)
                    go_simp
                    refine (HKPP.out _ (HUP.out _ HX0.out)).mono ?_
                    rintro e x1 ⟨rfl, hb9⟩
                    refine ⟨hb9, hK _ _ ?_⟩
                    clear hK K
                    have HX1 := Lib.hid (HX0.out.trans (hb9.mono (HLE4.out _ HX0.out)))
                    clear hb9
                    obtain ⟨b0, b1, b2, b3, b4, b5, b6⟩ := HCB.out _ HX1.out
                    repeat
                      first
                      | (first | with_reducible refine sp0 (fun K hK => ?_) | with_reducible refine sp1 (fun K hK => ?_) | with_reducible refine sp2 (fun K hK => ?_) | with_reducible refine sp3 (fun K hK => ?_) | with_reducible refine sp4 (fun K hK => ?_)
                         go_simp
                         first
                         | (with_reducible refine hK _ _ ?_; clear hK K)
                         | (with_reducible apply Exists.intro
                            refine ⟨fun x hx => ?_, hK _ _ ?_⟩
                            first
                              | (with_reducible exact rfl)
                              | (have y0 := keepc hx b0; have y1 := keepc hx b1; have y2 := keepc hx b2; have y3 := keepc hx b3; have y4 := keepc hx b4; have y5 := keepc hx b5; have y6 := keepc hx b6; go_simp; done)
                              | (have y0 := keepc hx b0; have y1 := keepc hx b1; have y2 := keepc hx b2; have y3 := keepc hx b3; have y4 := keepc hx b4; have y5 := keepc hx b5; have y6 := keepc hx b6; go_simp; with_reducible exact rfl)
                            clear hK K))
                      | (first | with_reducible refine sk0 ?_ (fun K hK => ?_) | with_reducible refine sk1 ?_ (fun K hK => ?_) | with_reducible refine sk2 ?_ (fun K hK => ?_) | with_reducible refine sk3 ?_ (fun K hK => ?_) | with_reducible refine sk4 ?_ (fun K hK => ?_)
                         rfl
                         go_simp
                         with_reducible refine hK _ _ ?_
                         clear hK K)
                    clear b0 b1 b2 b3 b4 b5 b6
                    first | with_reducible refine sc0 (fun K hK => ?_) | with_reducible refine sc1 (fun K hK => ?_) | with_reducible refine sc2 (fun K hK => ?_) | with_reducible refine sc3 (fun K hK => ?_) | with_reducible refine sc4 (fun K hK => ?_)
                    go_simp
                    refine (HKB.out _ HX1.out).mono ?_
                    rintro e x2 ⟨rfl, hb9⟩
                    refine ⟨hb9, hK _ _ ?_⟩
                    clear hK K
                    have HX2 := Lib.hid (HX1.out.trans (hb9.mono (HLE4.out _ HX1.out)))
                    clear hb9
                    obtain ⟨b0, b1, b2, b3, b4, b5, b6⟩ := HCB.out _ HX2.out
                    obtain ⟨l0, l1, l2, l3, l4, l5, l6⟩ := HCL.out _ HX2.out
                    repeat
                      first
                      | (first | with_reducible refine sp0 (fun K hK => ?_) | with_reducible refine sp1 (fun K hK => ?_) | with_reducible refine sp2 (fun K hK => ?_) | with_reducible refine sp3 (fun K hK => ?_) | with_reducible refine sp4 (fun K hK => ?_)
                         go_simp
                         first
                         | (with_reducible refine hK _ _ ?_; clear hK K)
                         | (with_reducible apply Exists.intro
                            refine ⟨fun x hx => ?_, hK _ _ ?_⟩
                            first
                              | (with_reducible exact rfl)
                              | (have y0 := keepc hx b0; have y1 := keepc hx b1; have y2 := keepc hx b2; have y3 := keepc hx b3; have y4 := keepc hx b4; have y5 := keepc hx b5; have y6 := keepc hx b6; have y7 := keepc hx l0; have y8 := keepc hx l1; have y9 := keepc hx l2; have y10 := keepc hx l3; have y11 := keepc hx l4; have y12 := keepc hx l5; have y13 := keepc hx l6; go_simp; done)
                              | (have y0 := keepc hx b0; have y1 := keepc hx b1; have y2 := keepc hx b2; have y3 := keepc hx b3; have y4 := keepc hx b4; have y5 := keepc hx b5; have y6 := keepc hx b6; have y7 := keepc hx l0; have y8 := keepc hx l1; have y9 := keepc hx l2; have y10 := keepc hx l3; have y11 := keepc hx l4; have y12 := keepc hx l5; have y13 := keepc hx l6; go_simp; with_reducible exact rfl)
                            clear hK K))
                      | (first | with_reducible refine sk0 ?_ (fun K hK => ?_) | with_reducible refine sk1 ?_ (fun K hK => ?_) | with_reducible refine sk2 ?_ (fun K hK => ?_) | with_reducible refine sk3 ?_ (fun K hK => ?_) | with_reducible refine sk4 ?_ (fun K hK => ?_)
                         rfl
                         go_simp
                         with_reducible refine hK _ _ ?_
                         clear hK K)
                    clear b0 b1 b2 b3 b4 b5 b6 l0 l1 l2 l3 l4 l5 l6
                    first | with_reducible refine sc0 (fun K hK => ?_) | with_reducible refine sc1 (fun K hK => ?_) | with_reducible refine sc2 (fun K hK => ?_) | with_reducible refine sc3 (fun K hK => ?_) | with_reducible refine sc4 (fun K hK => ?_)
                    go_simp
                    refine (HKL.out _ HX2.out).mono ?_
                    rintro e x3 ⟨rfl, hb9⟩
                    refine ⟨hb9, hK _ _ ?_⟩
                    clear hK K
                    have HX3 := Lib.hid (HX2.out.trans (hb9.mono (HLE4.out _ HX2.out)))
                    clear hb9
                    repeat
                      first
                      | (first | with_reducible refine sp0 (fun K hK => ?_) | with_reducible refine sp1 (fun K hK => ?_) | with_reducible refine sp2 (fun K hK => ?_) | with_reducible refine sp3 (fun K hK => ?_) | with_reducible refine sp4 (fun K hK => ?_)
                         go_simp
                         first
                         | (with_reducible refine hK _ _ ?_; clear hK K)
                         | (with_reducible apply Exists.intro
                            refine ⟨fun x hx => ?_, hK _ _ ?_⟩
                            first
                              | (with_reducible exact rfl)
                            clear hK K))
                      | (first | with_reducible refine sk0 ?_ (fun K hK => ?_) | with_reducible refine sk1 ?_ (fun K hK => ?_) | with_reducible refine sk2 ?_ (fun K hK => ?_) | with_reducible refine sk3 ?_ (fun K hK => ?_) | with_reducible refine sk4 ?_ (fun K hK => ?_)
                         rfl
                         go_simp
                         with_reducible refine hK _ _ ?_
                         clear hK K)
                    first | with_reducible refine sc0 (fun K hK => ?_) | with_reducible refine sc1 (fun K hK => ?_) | with_reducible refine sc2 (fun K hK => ?_) | with_reducible refine sc3 (fun K hK => ?_) | with_reducible refine sc4 (fun K hK => ?_)
                    go_simp
                    refine (HKB.out _ HX3.out).mono ?_
                    rintro e x4 ⟨rfl, hb9⟩
                    refine ⟨hb9, hK _ _ ?_⟩
                    clear hK K
                    have HX4 := Lib.hid (HX3.out.trans (hb9.mono (HLE4.out _ HX3.out)))
                    clear hb9
                    obtain ⟨b0, b1, b2, b3, b4, b5, b6⟩ := HCB.out _ HX4.out
                    repeat
                      first
                      | (first | with_reducible refine sp0 (fun K hK => ?_) | with_reducible refine sp1 (fun K hK => ?_) | with_reducible refine sp2 (fun K hK => ?_) | with_reducible refine sp3 (fun K hK => ?_) | with_reducible refine sp4 (fun K hK => ?_)
                         go_simp
                         first
                         | (with_reducible refine hK _ _ ?_; clear hK K)
                         | (with_reducible apply Exists.intro
                            refine ⟨fun x hx => ?_, hK _ _ ?_⟩
                            first
                              | (with_reducible exact rfl)
                              | (have y0 := keepc hx b0; have y1 := keepc hx b1; have y2 := keepc hx b2; have y3 := keepc hx b3; have y4 := keepc hx b4; have y5 := keepc hx b5; have y6 := keepc hx b6; go_simp; done)
                              | (have y0 := keepc hx b0; have y1 := keepc hx b1; have y2 := keepc hx b2; have y3 := keepc hx b3; have y4 := keepc hx b4; have y5 := keepc hx b5; have y6 := keepc hx b6; go_simp; with_reducible exact rfl)
                            clear hK K))
                      | (first | with_reducible refine sk0 ?_ (fun K hK => ?_) | with_reducible refine sk1 ?_ (fun K hK => ?_) | with_reducible refine sk2 ?_ (fun K hK => ?_) | with_reducible refine sk3 ?_ (fun K hK => ?_) | with_reducible refine sk4 ?_ (fun K hK => ?_)
                         rfl
                         go_simp
                         with_reducible refine hK _ _ ?_
                         clear hK K)
                    clear b0 b1 b2 b3 b4 b5 b6
                    first | with_reducible refine sc0 (fun K hK => ?_) | with_reducible refine sc1 (fun K hK => ?_) | with_reducible refine sc2 (fun K hK => ?_) | with_reducible refine sc3 (fun K hK => ?_) | with_reducible refine sc4 (fun K hK => ?_)
                    go_simp
                    refine (HWK.out _).mono ?_
                    rintro e x6 ⟨rfl, hb9⟩
                    refine ⟨hb9, hK _ _ ?_⟩
                    clear hK K
                    have HX6 := Lib.hid (HX4.out.trans (hb9.mono (HLE4.out _ HX4.out)))
                    clear hb9
                    repeat
                      first
                      | (first | with_reducible refine sp0 (fun K hK => ?_) | with_reducible refine sp1 (fun K hK => ?_) | with_reducible refine sp2 (fun K hK => ?_) | with_reducible refine sp3 (fun K hK => ?_) | with_reducible refine sp4 (fun K hK => ?_)
                         go_simp
                         first
                         | (with_reducible refine hK _ _ ?_; clear hK K)
                         | (with_reducible apply Exists.intro
                            refine ⟨fun x hx => ?_, hK _ _ ?_⟩
                            first
                              | (with_reducible exact rfl)
                            clear hK K))
                      | (first | with_reducible refine sk0 ?_ (fun K hK => ?_) | with_reducible refine sk1 ?_ (fun K hK => ?_) | with_reducible refine sk2 ?_ (fun K hK => ?_) | with_reducible refine sk3 ?_ (fun K hK => ?_) | with_reducible refine sk4 ?_ (fun K hK => ?_)
                         rfl
                         go_simp
                         with_reducible refine hK _ _ ?_
                         clear hK K)
                    with_reducible refine seq_nil ?_
                    go_wp2_with fail
                    go_ret
                    exact ⟨rfl, HBW.out _ (HUP.out _ HX6.out)⟩
                | false =>
                  obtain rfl : eb = 1 := heb.symm
                  as_aux_lemma =>
                    obtain ⟨c0, c1, c2, c3, c4, c5, c6⟩ := HCP.out _ (HUP.out _ HX0.out)
                    obtain ⟨b0, b1, b2, b3, b4, b5, b6⟩ := HCB.out _ HX0.out
                    refine wp_region_seq [(0, false), (2, false), (0, true), (0, false), (0, false), (0, false), (0, false), (2, false), (0, true), (0, false), (0, false), (0, false), (0, false), (0, false), (1, false), (0, true), (0, true), (0, false), (0, false), (0, false), (0, false), (0, false), (0, false), (0, true), (0, false), (0, false), (0, false), (0, false), (0, true), (0, false), (0, false)] (by kernel_rfl) (by kernel_rfl) (by kernel_rfl) (fun _ _ _ d _ h => by cases d <;> exact h) ?_
                    repeat
                      first
                      | (first | with_reducible refine sp0 (fun K hK => ?_) | with_reducible refine sp1 (fun K hK => ?_) | with_reducible refine sp2 (fun K hK => ?_) | with_reducible refine sp3 (fun K hK => ?_) | with_reducible refine sp4 (fun K hK => ?_)
                         go_simp
                         first
                         | (with_reducible refine hK _ _ ?_; clear hK K)
                         | (with_reducible apply Exists.intro
                            refine ⟨fun x hx => ?_, hK _ _ ?_⟩
                            first
                              | (with_reducible exact rfl)
                              | (have y0 := keepc hx c0; have y1 := keepc hx c1; have y2 := keepc hx c2; have y3 := keepc hx c3; have y4 := keepc hx c4; have y5 := keepc hx c5; have y6 := keepc hx c6; go_simp; done)
                              | (have y0 := keepc hx c0; have y1 := keepc hx c1; have y2 := keepc hx c2; have y3 := keepc hx c3; have y4 := keepc hx c4; have y5 := keepc hx c5; have y6 := keepc hx c6; go_simp; with_reducible exact rfl)
                            clear hK K))
                      | (first | with_reducible refine sk0 ?_ (fun K hK => ?_) | with_reducible refine sk1 ?_ (fun K hK => ?_) | with_reducible refine sk2 ?_ (fun K hK => ?_) | with_reducible refine sk3 ?_ (fun K hK => ?_) | with_reducible refine sk4 ?_ (fun K hK => ?_)
                         rfl
                         go_simp
                         with_reducible refine hK _ _ ?_
                         clear hK K)
                    clear c0 c1 c2 c3 c4 c5 c6 b0 b1 b2 b3 b4 b5 b6
                    first | with_reducible refine sc0 (fun K hK => ?_) | with_reducible refine sc1 (fun K hK => ?_) | with_reducible refine sc2 (fun K hK => ?_) | with_reducible refine sc3 (fun K hK => ?_) | with_reducible refine sc4 (fun K hK => ?_)
                    go_simp
                    refine (HKPP.out _ (HUP.out _ HX0.out)).mono ?_
                    rintro e x1 ⟨rfl, hb9⟩
                    refine ⟨hb9, hK _ _ ?_⟩
                    clear hK K
                    have HX1 := Lib.hid (HX0.out.trans (hb9.mono (HLE4.out _ HX0.out)))
                    clear hb9
                    obtain ⟨b0, b1, b2, b3, b4, b5, b6⟩ := HCB.out _ HX1.out
                    repeat
                      first
                      | (first | with_reducible refine sp0 (fun K hK => ?_) | with_reducible refine sp1 (fun K hK => ?_) | with_reducible refine sp2 (fun K hK => ?_) | with_reducible refine sp3 (fun K hK => ?_) | with_reducible refine sp4 (fun K hK => ?_)
                         go_simp
                         first
                         | (with_reducible refine hK _ _ ?_; clear hK K)
                         | (with_reducible apply Exists.intro
                            refine ⟨fun x hx => ?_, hK _ _ ?_⟩
                            first
                              | (with_reducible exact rfl)
                              | (have y0 := keepc hx b0; have y1 := keepc hx b1; have y2 := keepc hx b2; have y3 := keepc hx b3; have y4 := keepc hx b4; have y5 := keepc hx b5; have y6 := keepc hx b6; go_simp; done)
                              | (have y0 := keepc hx b0; have y1 := keepc hx b1; have y2 := keepc hx b2; have y3 := keepc hx b3; have y4 := keepc hx b4; have y5 := keepc hx b5; have y6 := keepc hx b6; go_simp; with_reducible exact rfl)
                            clear hK K))
                      | (first | with_reducible refine sk0 ?_ (fun K hK => ?_) | with_reducible refine sk1 ?_ (fun K hK => ?_) | with_reducible refine sk2 ?_ (fun K hK => ?_) | with_reducible refine sk3 ?_ (fun K hK => ?_) | with_reducible refine sk4 ?_ (fun K hK => ?_)
                         rfl
                         go_simp
                         with_reducible refine hK _ _ ?_
                         clear hK K)
                    clear b0 b1 b2 b3 b4 b5 b6
                    first | with_reducible refine sc0 (fun K hK => ?_) | with_reducible refine sc1 (fun K hK => ?_) | with_reducible refine sc2 (fun K hK => ?_) | with_reducible refine sc3 (fun K hK => ?_) | with_reducible refine sc4 (fun K hK => ?_)
                    go_simp
                    refine (HKB.out _ HX1.out).mono ?_
                    rintro e x2 ⟨rfl, hb9⟩
                    refine ⟨hb9, hK _ _ ?_⟩
                    clear hK K
                    have HX2 := Lib.hid (HX1.out.trans (hb9.mono (HLE4.out _ HX1.out)))
                    clear hb9
                    obtain ⟨b0, b1, b2, b3, b4, b5, b6⟩ := HCB.out _ HX2.out
                    obtain ⟨l0, l1, l2, l3, l4, l5, l6⟩ := HCL.out _ HX2.out
                    repeat
                      first
                      | (first | with_reducible refine sp0 (fun K hK => ?_) | with_reducible refine sp1 (fun K hK => ?_) | with_reducible refine sp2 (fun K hK => ?_) | with_reducible refine sp3 (fun K hK => ?_) | with_reducible refine sp4 (fun K hK => ?_)
                         go_simp
                         first
                         | (with_reducible refine hK _ _ ?_; clear hK K)
                         | (with_reducible apply Exists.intro
                            refine ⟨fun x hx => ?_, hK _ _ ?_⟩
                            first
                              | (with_reducible exact rfl)
                              | (have y0 := keepc hx b0; have y1 := keepc hx b1; have y2 := keepc hx b2; have y3 := keepc hx b3; have y4 := keepc hx b4; have y5 := keepc hx b5; have y6 := keepc hx b6; have y7 := keepc hx l0; have y8 := keepc hx l1; have y9 := keepc hx l2; have y10 := keepc hx l3; have y11 := keepc hx l4; have y12 := keepc hx l5; have y13 := keepc hx l6; go_simp; done)
                              | (have y0 := keepc hx b0; have y1 := keepc hx b1; have y2 := keepc hx b2; have y3 := keepc hx b3; have y4 := keepc hx b4; have y5 := keepc hx b5; have y6 := keepc hx b6; have y7 := keepc hx l0; have y8 := keepc hx l1; have y9 := keepc hx l2; have y10 := keepc hx l3; have y11 := keepc hx l4; have y12 := keepc hx l5; have y13 := keepc hx l6; go_simp; with_reducible exact rfl)
                            clear hK K))
                      | (first | with_reducible refine sk0 ?_ (fun K hK => ?_) | with_reducible refine sk1 ?_ (fun K hK => ?_) | with_reducible refine sk2 ?_ (fun K hK => ?_) | with_reducible refine sk3 ?_ (fun K hK => ?_) | with_reducible refine sk4 ?_ (fun K hK => ?_)
                         rfl
                         go_simp
                         with_reducible refine hK _ _ ?_
                         clear hK K)
                    clear b0 b1 b2 b3 b4 b5 b6 l0 l1 l2 l3 l4 l5 l6
                    first | with_reducible refine sc0 (fun K hK => ?_) | with_reducible refine sc1 (fun K hK => ?_) | with_reducible refine sc2 (fun K hK => ?_) | with_reducible refine sc3 (fun K hK => ?_) | with_reducible refine sc4 (fun K hK => ?_)
                    go_simp
                    refine (HKL.out _ HX2.out).mono ?_
                    rintro e x3 ⟨rfl, hb9⟩
                    refine ⟨hb9, hK _ _ ?_⟩
                    clear hK K
                    have HX3 := Lib.hid (HX2.out.trans (hb9.mono (HLE4.out _ HX2.out)))
                    clear hb9
                    repeat
                      first
                      | (first | with_reducible refine sp0 (fun K hK => ?_) | with_reducible refine sp1 (fun K hK => ?_) | with_reducible refine sp2 (fun K hK => ?_) | with_reducible refine sp3 (fun K hK => ?_) | with_reducible refine sp4 (fun K hK => ?_)
                         go_simp
                         first
                         | (with_reducible refine hK _ _ ?_; clear hK K)
                         | (with_reducible apply Exists.intro
                            refine ⟨fun x hx => ?_, hK _ _ ?_⟩
                            first
                              | (with_reducible exact rfl)
                            clear hK K))
                      | (first | with_reducible refine sk0 ?_ (fun K hK => ?_) | with_reducible refine sk1 ?_ (fun K hK => ?_) | with_reducible refine sk2 ?_ (fun K hK => ?_) | with_reducible refine sk3 ?_ (fun K hK => ?_) | with_reducible refine sk4 ?_ (fun K hK => ?_)
                         rfl
                         go_simp
                         with_reducible refine hK _ _ ?_
                         clear hK K)
                    first | with_reducible refine sc0 (fun K hK => ?_) | with_reducible refine sc1 (fun K hK => ?_) | with_reducible refine sc2 (fun K hK => ?_) | with_reducible refine sc3 (fun K hK => ?_) | with_reducible refine sc4 (fun K hK => ?_)
                    go_simp
                    refine (HKB.out _ HX3.out).mono ?_
                    rintro e x4 ⟨rfl, hb9⟩
                    refine ⟨hb9, hK _ _ ?_⟩
                    clear hK K
                    have HX4 := Lib.hid (HX3.out.trans (hb9.mono (HLE4.out _ HX3.out)))
                    clear hb9
                    obtain ⟨b0, b1, b2, b3, b4, b5, b6⟩ := HCB.out _ HX4.out
                    repeat
                      first
                      | (first | with_reducible refine sp0 (fun K hK => ?_) | with_reducible refine sp1 (fun K hK => ?_) | with_reducible refine sp2 (fun K hK => ?_) | with_reducible refine sp3 (fun K hK => ?_) | with_reducible refine sp4 (fun K hK => ?_)
                         go_simp
                         first
                         | (with_reducible refine hK _ _ ?_; clear hK K)
                         | (with_reducible apply Exists.intro
                            refine ⟨fun x hx => ?_, hK _ _ ?_⟩
                            first
                              | (with_reducible exact rfl)
                              | (have y0 := keepc hx b0; have y1 := keepc hx b1; have y2 := keepc hx b2; have y3 := keepc hx b3; have y4 := keepc hx b4; have y5 := keepc hx b5; have y6 := keepc hx b6; go_simp; done)
                              | (have y0 := keepc hx b0; have y1 := keepc hx b1; have y2 := keepc hx b2; have y3 := keepc hx b3; have y4 := keepc hx b4; have y5 := keepc hx b5; have y6 := keepc hx b6; go_simp; with_reducible exact rfl)
                            clear hK K))
                      | (first | with_reducible refine sk0 ?_ (fun K hK => ?_) | with_reducible refine sk1 ?_ (fun K hK => ?_) | with_reducible refine sk2 ?_ (fun K hK => ?_) | with_reducible refine sk3 ?_ (fun K hK => ?_) | with_reducible refine sk4 ?_ (fun K hK => ?_)
                         rfl
                         go_simp
                         with_reducible refine hK _ _ ?_
                         clear hK K)
                    clear b0 b1 b2 b3 b4 b5 b6
                    first | with_reducible refine sc0 (fun K hK => ?_) | with_reducible refine sc1 (fun K hK => ?_) | with_reducible refine sc2 (fun K hK => ?_) | with_reducible refine sc3 (fun K hK => ?_) | with_reducible refine sc4 (fun K hK => ?_)
                    go_simp
                    refine (HKB.out _ HX4.out).mono ?_
                    rintro e x5 ⟨rfl, hb9⟩
                    refine ⟨hb9, hK _ _ ?_⟩
                    clear hK K
                    have HX5 := Lib.hid (HX4.out.trans (hb9.mono (HLE4.out _ HX4.out)))
                    clear hb9
                    repeat
                      first
                      | (first | with_reducible refine sp0 (fun K hK => ?_) | with_reducible refine sp1 (fun K hK => ?_) | with_reducible refine sp2 (fun K hK => ?_) | with_reducible refine sp3 (fun K hK => ?_) | with_reducible refine sp4 (fun K hK => ?_)
                         go_simp
                         first
                         | (with_reducible refine hK _ _ ?_; clear hK K)
                         | (with_reducible apply Exists.intro
                            refine ⟨fun x hx => ?_, hK _ _ ?_⟩
                            first
                              | (with_reducible exact rfl)
                            clear hK K))
                      | (first | with_reducible refine sk0 ?_ (fun K hK => ?_) | with_reducible refine sk1 ?_ (fun K hK => ?_) | with_reducible refine sk2 ?_ (fun K hK => ?_) | with_reducible refine sk3 ?_ (fun K hK => ?_) | with_reducible refine sk4 ?_ (fun K hK => ?_)
                         rfl
                         go_simp
                         with_reducible refine hK _ _ ?_
                         clear hK K)
                    first | with_reducible refine sc0 (fun K hK => ?_) | with_reducible refine sc1 (fun K hK => ?_) | with_reducible refine sc2 (fun K hK => ?_) | with_reducible refine sc3 (fun K hK => ?_) | with_reducible refine sc4 (fun K hK => ?_)
                    go_simp
                    refine (HWK.out _).mono ?_
                    rintro e x6 ⟨rfl, hb9⟩
                    refine ⟨hb9, hK _ _ ?_⟩
                    clear hK K
                    have HX6 := Lib.hid (HX5.out.trans (hb9.mono (HLE4.out _ HX5.out)))
                    clear hb9
                    repeat
                      first
                      | (first | with_reducible refine sp0 (fun K hK => ?_) | with_reducible refine sp1 (fun K hK => ?_) | with_reducible refine sp2 (fun K hK => ?_) | with_reducible refine sp3 (fun K hK => ?_) | with_reducible refine sp4 (fun K hK => ?_)
                         go_simp
                         first
                         | (with_reducible refine hK _ _ ?_; clear hK K)
                         | (with_reducible apply Exists.intro
                            refine ⟨fun x hx => ?_, hK _ _ ?_⟩
                            first
                              | (with_reducible exact rfl)
                            clear hK K))
                      | (first | with_reducible refine sk0 ?_ (fun K hK => ?_) | with_reducible refine sk1 ?_ (fun K hK => ?_) | with_reducible refine sk2 ?_ (fun K hK => ?_) | with_reducible refine sk3 ?_ (fun K hK => ?_) | with_reducible refine sk4 ?_ (fun K hK => ?_)
                         rfl
                         go_simp
                         with_reducible refine hK _ _ ?_
                         clear hK K)
                    with_reducible refine seq_nil ?_
                    go_wp2_with fail
                    go_ret
                    exact ⟨rfl, HBW.out _ (HUP.out _ HX6.out)⟩
              | false =>
                obtain rfl : ep = 1 := hep.symm
                cases mb with
                | true =>
                  obtain rfl : eb = 0 := heb.symm
                  as_aux_lemma =>
                    obtain ⟨c0, c1, c2, c3, c4, c5, c6⟩ := HCP.out _ (HUP.out _ HX0.out)
                    obtain ⟨b0, b1, b2, b3, b4, b5, b6⟩ := HCB.out _ HX0.out
                    refine wp_region_seq [(0, false), (2, false), (0, true), (0, false), (0, false), (0, false), (0, false), (2, false), (0, true), (0, false), (0, false), (0, false), (0, false), (0, false), (1, false), (0, true), (0, true), (0, false), (0, false), (0, false), (0, false), (0, false), (0, false), (0, true), (0, false), (0, false), (0, false), (0, false), (0, true), (0, false), (0, false)] (by kernel_rfl) (by kernel_rfl) (by kernel_rfl) (fun _ _ _ d _ h => by cases d <;> exact h) ?_
                    repeat
                      first
                      | (first | with_reducible refine sp0 (fun K hK => ?_) | with_reducible refine sp1 (fun K hK => ?_) | with_reducible refine sp2 (fun K hK => ?_) | with_reducible refine sp3 (fun K hK => ?_) | with_reducible refine sp4 (fun K hK => ?_)
                         go_simp
                         first
                         | (with_reducible refine hK _ _ ?_; clear hK K)
                         | (with_reducible apply Exists.intro
                            refine ⟨fun x hx => ?_, hK _ _ ?_⟩
                            first
                              | (with_reducible exact rfl)
                              | (have y0 := keepc hx c0; have y1 := keepc hx c1; have y2 := keepc hx c2; have y3 := keepc hx c3; have y4 := keepc hx c4; have y5 := keepc hx c5; have y6 := keepc hx c6; go_simp; done)
                              | (have y0 := keepc hx c0; have y1 := keepc hx c1; have y2 := keepc hx c2; have y3 := keepc hx c3; have y4 := keepc hx c4; have y5 := keepc hx c5; have y6 := keepc hx c6; go_simp; with_reducible exact rfl)
                            clear hK K))
                      | (first | with_reducible refine sk0 ?_ (fun K hK => ?_) | with_reducible refine sk1 ?_ (fun K hK => ?_) | with_reducible refine sk2 ?_ (fun K hK => ?_) | with_reducible refine sk3 ?_ (fun K hK => ?_) | with_reducible refine sk4 ?_ (fun K hK => ?_)
                         rfl
                         go_simp
                         with_reducible refine hK _ _ ?_
                         clear hK K)
                    clear c0 c1 c2 c3 c4 c5 c6 b0 b1 b2 b3 b4 b5 b6
                    first | with_reducible refine sc0 (fun K hK => ?_) | with_reducible refine sc1 (fun K hK => ?_) | with_reducible refine sc2 (fun K hK => ?_) | with_reducible refine sc3 (fun K hK => ?_) | with_reducible refine sc4 (fun K hK => ?_)
                    go_simp
                    refine (HKPP.out _ (HUP.out _ HX0.out)).mono ?_
                    rintro e x1 ⟨rfl, hb9⟩
                    refine ⟨hb9, hK _ _ ?_⟩
                    clear hK K
                    have HX1 := Lib.hid (HX0.out.trans (hb9.mono (HLE4.out _ HX0.out)))
                    clear hb9
                    obtain ⟨b0, b1, b2, b3, b4, b5, b6⟩ := HCB.out _ HX1.out
                    repeat
                      first
                      | (first | with_reducible refine sp0 (fun K hK => ?_) | with_reducible refine sp1 (fun K hK => ?_) | with_reducible refine sp2 (fun K hK => ?_) | with_reducible refine sp3 (fun K hK => ?_) | with_reducible refine sp4 (fun K hK => ?_)
                         go_simp
                         first
                         | (with_reducible refine hK _ _ ?_; clear hK K)
                         | (with_reducible apply Exists.intro
                            refine ⟨fun x hx => ?_, hK _ _ ?_⟩
                            first
                              | (with_reducible exact rfl)
                              | (have y0 := keepc hx b0; have y1 := keepc hx b1; have y2 := keepc hx b2; have y3 := keepc hx b3; have y4 := keepc hx b4; have y5 := keepc hx b5; have y6 := keepc hx b6; go_simp; done)
                              | (have y0 := keepc hx b0; have y1 := keepc hx b1; have y2 := keepc hx b2; have y3 := keepc hx b3; have y4 := keepc hx b4; have y5 := keepc hx b5; have y6 := keepc hx b6; go_simp; with_reducible exact rfl)
                            clear hK K))
                      | (first | with_reducible refine sk0 ?_ (fun K hK => ?_) | with_reducible refine sk1 ?_ (fun K hK => ?_) | with_reducible refine sk2 ?_ (fun K hK => ?_) | with_reducible refine sk3 ?_ (fun K hK => ?_) | with_reducible refine sk4 ?_ (fun K hK => ?_)
                         rfl
                         go_simp
                         with_reducible refine hK _ _ ?_
                         clear hK K)
                    clear b0 b1 b2 b3 b4 b5 b6
                    first | with_reducible refine sc0 (fun K hK => ?_) | with_reducible refine sc1 (fun K hK => ?_) | with_reducible refine sc2 (fun K hK => ?_) | with_reducible refine sc3 (fun K hK => ?_) | with_reducible refine sc4 (fun K hK => ?_)
                    go_simp
                    refine (HKB.out _ HX1.out).mono ?_
                    rintro e x2 ⟨rfl, hb9⟩
                    refine ⟨hb9, hK _ _ ?_⟩
                    clear hK K
                    have HX2 := Lib.hid (HX1.out.trans (hb9.mono (HLE4.out _ HX1.out)))
                    clear hb9
                    obtain ⟨b0, b1, b2, b3, b4, b5, b6⟩ := HCB.out _ HX2.out
                    obtain ⟨l0, l1, l2, l3, l4, l5, l6⟩ := HCL.out _ HX2.out
                    repeat
                      first
                      | (first | with_reducible refine sp0 (fun K hK => ?_) | with_reducible refine sp1 (fun K hK => ?_) | with_reducible refine sp2 (fun K hK => ?_) | with_reducible refine sp3 (fun K hK => ?_) | with_reducible refine sp4 (fun K hK => ?_)
                         go_simp
                         first
                         | (with_reducible refine hK _ _ ?_; clear hK K)
                         | (with_reducible apply Exists.intro
                            refine ⟨fun x hx => ?_, hK _ _ ?_⟩
                            first
                              | (with_reducible exact rfl)
                              | (have y0 := keepc hx b0; have y1 := keepc hx b1; have y2 := keepc hx b2; have y3 := keepc hx b3; have y4 := keepc hx b4; have y5 := keepc hx b5; have y6 := keepc hx b6; have y7 := keepc hx l0; have y8 := keepc hx l1; have y9 := keepc hx l2; have y10 := keepc hx l3; have y11 := keepc hx l4; have y12 := keepc hx l5; have y13 := keepc hx l6; go_simp; done)
                              | (have y0 := keepc hx b0; have y1 := keepc hx b1; have y2 := keepc hx b2; have y3 := keepc hx b3; have y4 := keepc hx b4; have y5 := keepc hx b5; have y6 := keepc hx b6; have y7 := keepc hx l0; have y8 := keepc hx l1; have y9 := keepc hx l2; have y10 := keepc hx l3; have y11 := keepc hx l4; have y12 := keepc hx l5; have y13 := keepc hx l6; go_simp; with_reducible exact rfl)
                            clear hK K))
                      | (first | with_reducible refine sk0 ?_ (fun K hK => ?_) | with_reducible refine sk1 ?_ (fun K hK => ?_) | with_reducible refine sk2 ?_ (fun K hK => ?_) | with_reducible refine sk3 ?_ (fun K hK => ?_) | with_reducible refine sk4 ?_ (fun K hK => ?_)
                         rfl
                         go_simp
                         with_reducible refine hK _ _ ?_
                         clear hK K)
                    clear b0 b1 b2 b3 b4 b5 b6 l0 l1 l2 l3 l4 l5 l6
                    first | with_reducible refine sc0 (fun K hK => ?_) | with_reducible refine sc1 (fun K hK => ?_) | with_reducible refine sc2 (fun K hK => ?_) | with_reducible refine sc3 (fun K hK => ?_) | with_reducible refine sc4 (fun K hK => ?_)
                    go_simp
                    refine (HKL.out _ HX2.out).mono ?_
                    rintro e x3 ⟨rfl, hb9⟩
                    refine ⟨hb9, hK _ _ ?_⟩
                    clear hK K
                    have HX3 := Lib.hid (HX2.out.trans (hb9.mono (HLE4.out _ HX2.out)))
                    clear hb9
                    repeat
                      first
                      | (first | with_reducible refine sp0 (fun K hK => ?_) | with_reducible refine sp1 (fun K hK => ?_) | with_reducible refine sp2 (fun K hK => ?_) | with_reducible refine sp3 (fun K hK => ?_) | with_reducible refine sp4 (fun K hK => ?_)
                         go_simp
                         first
                         | (with_reducible refine hK _ _ ?_; clear hK K)
                         | (with_reducible apply Exists.intro
                            refine ⟨fun x hx => ?_, hK _ _ ?_⟩
                            first
                              | (with_reducible exact rfl)
                            clear hK K))
                      | (first | with_reducible refine sk0 ?_ (fun K hK => ?_) | with_reducible refine sk1 ?_ (fun K hK => ?_) | with_reducible refine sk2 ?_ (fun K hK => ?_) | with_reducible refine sk3 ?_ (fun K hK => ?_) | with_reducible refine sk4 ?_ (fun K hK => ?_)
                         rfl
                         go_simp
                         with_reducible refine hK _ _ ?_
                         clear hK K)
                    first | with_reducible refine sc0 (fun K hK => ?_) | with_reducible refine sc1 (fun K hK => ?_) | with_reducible refine sc2 (fun K hK => ?_) | with_reducible refine sc3 (fun K hK => ?_) | with_reducible refine sc4 (fun K hK => ?_)
                    go_simp
                    refine (HKB.out _ HX3.out).mono ?_
                    rintro e x4 ⟨rfl, hb9⟩
                    refine ⟨hb9, hK _ _ ?_⟩
                    clear hK K
                    have HX4 := Lib.hid (HX3.out.trans (hb9.mono (HLE4.out _ HX3.out)))
                    clear hb9
                    obtain ⟨b0, b1, b2, b3, b4, b5, b6⟩ := HCB.out _ HX4.out
                    repeat
                      first
                      | (first | with_reducible refine sp0 (fun K hK => ?_) | with_reducible refine sp1 (fun K hK => ?_) | with_reducible refine sp2 (fun K hK => ?_) | with_reducible refine sp3 (fun K hK => ?_) | with_reducible refine sp4 (fun K hK => ?_)
                         go_simp
                         first
                         | (with_reducible refine hK _ _ ?_; clear hK K)
                         | (with_reducible apply Exists.intro
                            refine ⟨fun x hx => ?_, hK _ _ ?_⟩
                            first
                              | (with_reducible exact rfl)
                              | (have y0 := keepc hx b0; have y1 := keepc hx b1; have y2 := keepc hx b2; have y3 := keepc hx b3; have y4 := keepc hx b4; have y5 := keepc hx b5; have y6 := keepc hx b6; go_simp; done)
                              | (have y0 := keepc hx b0; have y1 := keepc hx b1; have y2 := keepc hx b2; have y3 := keepc hx b3; have y4 := keepc hx b4; have y5 := keepc hx b5; have y6 := keepc hx b6; go_simp; with_reducible exact rfl)
                            clear hK K))
                      | (first | with_reducible refine sk0 ?_ (fun K hK => ?_) | with_reducible refine sk1 ?_ (fun K hK => ?_) | with_reducible refine sk2 ?_ (fun K hK => ?_) | with_reducible refine sk3 ?_ (fun K hK => ?_) | with_reducible refine sk4 ?_ (fun K hK => ?_)
                         rfl
                         go_simp
                         with_reducible refine hK _ _ ?_
                         clear hK K)
                    clear b0 b1 b2 b3 b4 b5 b6
                    first | with_reducible refine sc0 (fun K hK => ?_) | with_reducible refine sc1 (fun K hK => ?_) | with_reducible refine sc2 (fun K hK => ?_) | with_reducible refine sc3 (fun K hK => ?_) | with_reducible refine sc4 (fun K hK => ?_)
                    go_simp
                    refine (HWK.out _).mono ?_
                    rintro e x6 ⟨rfl, hb9⟩
                    refine ⟨hb9, hK _ _ ?_⟩
                    clear hK K
                    have HX6 := Lib.hid (HX4.out.trans (hb9.mono (HLE4.out _ HX4.out)))
                    clear hb9
                    repeat
                      first
                      | (first | with_reducible refine sp0 (fun K hK => ?_) | with_reducible refine sp1 (fun K hK => ?_) | with_reducible refine sp2 (fun K hK => ?_) | with_reducible refine sp3 (fun K hK => ?_) | with_reducible refine sp4 (fun K hK => ?_)
                         go_simp
                         first
                         | (with_reducible refine hK _ _ ?_; clear hK K)
                         | (with_reducible apply Exists.intro
                            refine ⟨fun x hx => ?_, hK _ _ ?_⟩
                            first
                              | (with_reducible exact rfl)
                            clear hK K))
                      | (first | with_reducible refine sk0 ?_ (fun K hK => ?_) | with_reducible refine sk1 ?_ (fun K hK => ?_) | with_reducible refine sk2 ?_ (fun K hK => ?_) | with_reducible refine sk3 ?_ (fun K hK => ?_) | with_reducible refine sk4 ?_ (fun K hK => ?_)
                         rfl
                         go_simp
                         with_reducible refine hK _ _ ?_
                         clear hK K)
                    with_reducible refine seq_nil ?_
                    go_wp2_with fail
                    go_ret
                    exact ⟨rfl, HBW.out _ (HUP.out _ HX6.out)⟩
                | false =>
                  obtain rfl : eb = 1 := heb.symm
                  as_aux_lemma =>
                    obtain ⟨c0, c1, c2, c3, c4, c5, c6⟩ := HCP.out _ (HUP.out _ HX0.out)
                    obtain ⟨b0, b1, b2, b3, b4, b5, b6⟩ := HCB.out _ HX0.out
                    refine wp_region_seq [(0, false), (2, false), (0, true), (0, false), (0, false), (0, false), (0, false), (2, false), (0, true), (0, false), (0, false), (0, false), (0, false), (0, false), (1, false), (0, true), (0, true), (0, false), (0, false), (0, false), (0, false), (0, false), (0, false), (0, true), (0, false), (0, false), (0, false), (0, false), (0, true), (0, false), (0, false)] (by kernel_rfl) (by kernel_rfl) (by kernel_rfl) (fun _ _ _ d _ h => by cases d <;> exact h) ?_
                    repeat
                      first
                      | (first | with_reducible refine sp0 (fun K hK => ?_) | with_reducible refine sp1 (fun K hK => ?_) | with_reducible refine sp2 (fun K hK => ?_) | with_reducible refine sp3 (fun K hK => ?_) | with_reducible refine sp4 (fun K hK => ?_)
                         go_simp
                         first
                         | (with_reducible refine hK _ _ ?_; clear hK K)
                         | (with_reducible apply Exists.intro
                            refine ⟨fun x hx => ?_, hK _ _ ?_⟩
                            first
                              | (with_reducible exact rfl)
                              | (have y0 := keepc hx c0; have y1 := keepc hx c1; have y2 := keepc hx c2; have y3 := keepc hx c3; have y4 := keepc hx c4; have y5 := keepc hx c5; have y6 := keepc hx c6; go_simp; done)
                              | (have y0 := keepc hx c0; have y1 := keepc hx c1; have y2 := keepc hx c2; have y3 := keepc hx c3; have y4 := keepc hx c4; have y5 := keepc hx c5; have y6 := keepc hx c6; go_simp; with_reducible exact rfl)
                            clear hK K))
                      | (first | with_reducible refine sk0 ?_ (fun K hK => ?_) | with_reducible refine sk1 ?_ (fun K hK => ?_) | with_reducible refine sk2 ?_ (fun K hK => ?_) | with_reducible refine sk3 ?_ (fun K hK => ?_) | with_reducible refine sk4 ?_ (fun K hK => ?_)
                         rfl
                         go_simp
                         with_reducible refine hK _ _ ?_
                         clear hK K)
                    clear c0 c1 c2 c3 c4 c5 c6 b0 b1 b2 b3 b4 b5 b6
                    first | with_reducible refine sc0 (fun K hK => ?_) | with_reducible refine sc1 (fun K hK => ?_) | with_reducible refine sc2 (fun K hK => ?_) | with_reducible refine sc3 (fun K hK => ?_) | with_reducible refine sc4 (fun K hK => ?_)
                    go_simp
                    refine (HKPP.out _ (HUP.out _ HX0.out)).mono ?_
                    rintro e x1 ⟨rfl, hb9⟩
                    refine ⟨hb9, hK _ _ ?_⟩
                    clear hK K
                    have HX1 := Lib.hid (HX0.out.trans (hb9.mono (HLE4.out _ HX0.out)))
                    clear hb9
                    obtain ⟨b0, b1, b2, b3, b4, b5, b6⟩ := HCB.out _ HX1.out
                    repeat
                      first
                      | (first | with_reducible refine sp0 (fun K hK => ?_) | with_reducible refine sp1 (fun K hK => ?_) | with_reducible refine sp2 (fun K hK => ?_) | with_reducible refine sp3 (fun K hK => ?_) | with_reducible refine sp4 (fun K hK => ?_)
                         go_simp
                         first
                         | (with_reducible refine hK _ _ ?_; clear hK K)
                         | (with_reducible apply Exists.intro
                            refine ⟨fun x hx => ?_, hK _ _ ?_⟩
                            first
                              | (with_reducible exact rfl)
                              | (have y0 := keepc hx b0; have y1 := keepc hx b1; have y2 := keepc hx b2; have y3 := keepc hx b3; have y4 := keepc hx b4; have y5 := keepc hx b5; have y6 := keepc hx b6; go_simp; done)
                              | (have y0 := keepc hx b0; have y1 := keepc hx b1; have y2 := keepc hx b2; have y3 := keepc hx b3; have y4 := keepc hx b4; have y5 := keepc hx b5; have y6 := keepc hx b6; go_simp; with_reducible exact rfl)
                            clear hK K))
                      | (first | with_reducible refine sk0 ?_ (fun K hK => ?_) | with_reducible refine sk1 ?_ (fun K hK => ?_) | with_reducible refine sk2 ?_ (fun K hK => ?_) | with_reducible refine sk3 ?_ (fun K hK => ?_) | with_reducible refine sk4 ?_ (fun K hK => ?_)
                         rfl
                         go_simp
                         with_reducible refine hK _ _ ?_
                         clear hK K)
                    clear b0 b1 b2 b3 b4 b5 b6
                    first | with_reducible refine sc0 (fun K hK => ?_) | with_reducible refine sc1 (fun K hK => ?_) | with_reducible refine sc2 (fun K hK => ?_) | with_reducible refine sc3 (fun K hK => ?_) | with_reducible refine sc4 (fun K hK => ?_)
                    go_simp
                    refine (HKB.out _ HX1.out).mono ?_
                    rintro e x2 ⟨rfl, hb9⟩
                    refine ⟨hb9, hK _ _ ?_⟩
                    clear hK K
                    have HX2 := Lib.hid (HX1.out.trans (hb9.mono (HLE4.out _ HX1.out)))
                    clear hb9
                    obtain ⟨b0, b1, b2, b3, b4, b5, b6⟩ := HCB.out _ HX2.out
                    obtain ⟨l0, l1, l2, l3, l4, l5, l6⟩ := HCL.out _ HX2.out
                    repeat
                      first
                      | (first | with_reducible refine sp0 (fun K hK => ?_) | with_reducible refine sp1 (fun K hK => ?_) | with_reducible refine sp2 (fun K hK => ?_) | with_reducible refine sp3 (fun K hK => ?_) | with_reducible refine sp4 (fun K hK => ?_)
                         go_simp
                         first
                         | (with_reducible refine hK _ _ ?_; clear hK K)
                         | (with_reducible apply Exists.intro
                            refine ⟨fun x hx => ?_, hK _ _ ?_⟩
                            first
                              | (with_reducible exact rfl)
                              | (have y0 := keepc hx b0; have y1 := keepc hx b1; have y2 := keepc hx b2; have y3 := keepc hx b3; have y4 := keepc hx b4; have y5 := keepc hx b5; have y6 := keepc hx b6; have y7 := keepc hx l0; have y8 := keepc hx l1; have y9 := keepc hx l2; have y10 := keepc hx l3; have y11 := keepc hx l4; have y12 := keepc hx l5; have y13 := keepc hx l6; go_simp; done)
                              | (have y0 := keepc hx b0; have y1 := keepc hx b1; have y2 := keepc hx b2; have y3 := keepc hx b3; have y4 := keepc hx b4; have y5 := keepc hx b5; have y6 := keepc hx b6; have y7 := keepc hx l0; have y8 := keepc hx l1; have y9 := keepc hx l2; have y10 := keepc hx l3; have y11 := keepc hx l4; have y12 := keepc hx l5; have y13 := keepc hx l6; go_simp; with_reducible exact rfl)
                            clear hK K))
                      | (first | with_reducible refine sk0 ?_ (fun K hK => ?_) | with_reducible refine sk1 ?_ (fun K hK => ?_) | with_reducible refine sk2 ?_ (fun K hK => ?_) | with_reducible refine sk3 ?_ (fun K hK => ?_) | with_reducible refine sk4 ?_ (fun K hK => ?_)
                         rfl
                         go_simp
                         with_reducible refine hK _ _ ?_
                         clear hK K)
                    clear b0 b1 b2 b3 b4 b5 b6 l0 l1 l2 l3 l4 l5 l6
                    first | with_reducible refine sc0 (fun K hK => ?_) | with_reducible refine sc1 (fun K hK => ?_) | with_reducible refine sc2 (fun K hK => ?_) | with_reducible refine sc3 (fun K hK => ?_) | with_reducible refine sc4 (fun K hK => ?_)
                    go_simp
                    refine (HKL.out _ HX2.out).mono ?_
                    rintro e x3 ⟨rfl, hb9⟩
                    refine ⟨hb9, hK _ _ ?_⟩
                    clear hK K
                    have HX3 := Lib.hid (HX2.out.trans (hb9.mono (HLE4.out _ HX2.out)))
                    clear hb9
                    repeat
                      first
                      | (first | with_reducible refine sp0 (fun K hK => ?_) | with_reducible refine sp1 (fun K hK => ?_) | with_reducible refine sp2 (fun K hK => ?_) | with_reducible refine sp3 (fun K hK => ?_) | with_reducible refine sp4 (fun K hK => ?_)
                         go_simp
                         first
                         | (with_reducible refine hK _ _ ?_; clear hK K)
                         | (with_reducible apply Exists.intro
                            refine ⟨fun x hx => ?_, hK _ _ ?_⟩
                            first
                              | (with_reducible exact rfl)
                            clear hK K))
                      | (first | with_reducible refine sk0 ?_ (fun K hK => ?_) | with_reducible refine sk1 ?_ (fun K hK => ?_) | with_reducible refine sk2 ?_ (fun K hK => ?_) | with_reducible refine sk3 ?_ (fun K hK => ?_) | with_reducible refine sk4 ?_ (fun K hK => ?_)
                         rfl
                         go_simp
                         with_reducible refine hK _ _ ?_
                         clear hK K)
                    first | with_reducible refine sc0 (fun K hK => ?_) | with_reducible refine sc1 (fun K hK => ?_) | with_reducible refine sc2 (fun K hK => ?_) | with_reducible refine sc3 (fun K hK => ?_) | with_reducible refine sc4 (fun K hK => ?_)
                    go_simp
                    refine (HKB.out _ HX3.out).mono ?_
                    rintro e x4 ⟨rfl, hb9⟩
                    refine ⟨hb9, hK _ _ ?_⟩
                    clear hK K
                    have HX4 := Lib.hid (HX3.out.trans (hb9.mono (HLE4.out _ HX3.out)))
                    clear hb9
                    obtain ⟨b0, b1, b2, b3, b4, b5, b6⟩ := HCB.out _ HX4.out
                    repeat
                      first
                      | (first | with_reducible refine sp0 (fun K hK => ?_) | with_reducible refine sp1 (fun K hK => ?_) | with_reducible refine sp2 (fun K hK => ?_) | with_reducible refine sp3 (fun K hK => ?_) | with_reducible refine sp4 (fun K hK => ?_)
                         go_simp
                         first
                         | (with_reducible refine hK _ _ ?_; clear hK K)
                         | (with_reducible apply Exists.intro
                            refine ⟨fun x hx => ?_, hK _ _ ?_⟩
                            first
                              | (with_reducible exact rfl)
                              | (have y0 := keepc hx b0; have y1 := keepc hx b1; have y2 := keepc hx b2; have y3 := keepc hx b3; have y4 := keepc hx b4; have y5 := keepc hx b5; have y6 := keepc hx b6; go_simp; done)
                              | (have y0 := keepc hx b0; have y1 := keepc hx b1; have y2 := keepc hx b2; have y3 := keepc hx b3; have y4 := keepc hx b4; have y5 := keepc hx b5; have y6 := keepc hx b6; go_simp; with_reducible exact rfl)
                            clear hK K))
                      | (first | with_reducible refine sk0 ?_ (fun K hK => ?_) | with_reducible refine sk1 ?_ (fun K hK => ?_) | with_reducible refine sk2 ?_ (fun K hK => ?_) | with_reducible refine sk3 ?_ (fun K hK => ?_) | with_reducible refine sk4 ?_ (fun K hK => ?_)
                         rfl
                         go_simp
                         with_reducible refine hK _ _ ?_
                         clear hK K)
                    clear b0 b1 b2 b3 b4 b5 b6
                    first | with_reducible refine sc0 (fun K hK => ?_) | with_reducible refine sc1 (fun K hK => ?_) | with_reducible refine sc2 (fun K hK => ?_) | with_reducible refine sc3 (fun K hK => ?_) | with_reducible refine sc4 (fun K hK => ?_)
                    go_simp
                    refine (HKB.out _ HX4.out).mono ?_
                    rintro e x5 ⟨rfl, hb9⟩
                    refine ⟨hb9, hK _ _ ?_⟩
                    clear hK K
                    have HX5 := Lib.hid (HX4.out.trans (hb9.mono (HLE4.out _ HX4.out)))
                    clear hb9
                    repeat
                      first
                      | (first | with_reducible refine sp0 (fun K hK => ?_) | with_reducible refine sp1 (fun K hK => ?_) | with_reducible refine sp2 (fun K hK => ?_) | with_reducible refine sp3 (fun K hK => ?_) | with_reducible refine sp4 (fun K hK => ?_)
                         go_simp
                         first
                         | (with_reducible refine hK _ _ ?_; clear hK K)
                         | (with_reducible apply Exists.intro
                            refine ⟨fun x hx => ?_, hK _ _ ?_⟩
                            first
                              | (with_reducible exact rfl)
                            clear hK K))
                      | (first | with_reducible refine sk0 ?_ (fun K hK => ?_) | with_reducible refine sk1 ?_ (fun K hK => ?_) | with_reducible refine sk2 ?_ (fun K hK => ?_) | with_reducible refine sk3 ?_ (fun K hK => ?_) | with_reducible refine sk4 ?_ (fun K hK => ?_)
                         rfl
                         go_simp
                         with_reducible refine hK _ _ ?_
                         clear hK K)
                    first | with_reducible refine sc0 (fun K hK => ?_) | with_reducible refine sc1 (fun K hK => ?_) | with_reducible refine sc2 (fun K hK => ?_) | with_reducible refine sc3 (fun K hK => ?_) | with_reducible refine sc4 (fun K hK => ?_)
                    go_simp
                    refine (HWK.out _).mono ?_
                    rintro e x6 ⟨rfl, hb9⟩
                    refine ⟨hb9, hK _ _ ?_⟩
                    clear hK K
                    have HX6 := Lib.hid (HX5.out.trans (hb9.mono (HLE4.out _ HX5.out)))
                    clear hb9
                    repeat
                      first
                      | (first | with_reducible refine sp0 (fun K hK => ?_) | with_reducible refine sp1 (fun K hK => ?_) | with_reducible refine sp2 (fun K hK => ?_) | with_reducible refine sp3 (fun K hK => ?_) | with_reducible refine sp4 (fun K hK => ?_)
                         go_simp
                         first
                         | (with_reducible refine hK _ _ ?_; clear hK K)
                         | (with_reducible apply Exists.intro
                            refine ⟨fun x hx => ?_, hK _ _ ?_⟩
                            first
                              | (with_reducible exact rfl)
                            clear hK K))
                      | (first | with_reducible refine sk0 ?_ (fun K hK => ?_) | with_reducible refine sk1 ?_ (fun K hK => ?_) | with_reducible refine sk2 ?_ (fun K hK => ?_) | with_reducible refine sk3 ?_ (fun K hK => ?_) | with_reducible refine sk4 ?_ (fun K hK => ?_)
                         rfl
                         go_simp
                         with_reducible refine hK _ _ ?_
                         clear hK K)
                    with_reducible refine seq_nil ?_
                    go_wp2_with fail
                    go_ret
                    exact ⟨rfl, HBW.out _ (HUP.out _ HX6.out)⟩
end Go.Proofs.YtjaaphahfgogdaaGreat
