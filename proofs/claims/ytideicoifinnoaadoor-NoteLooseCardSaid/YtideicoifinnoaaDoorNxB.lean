/- What the laws of layer 4 share: bytes of a text, the tokens of a text and what stands behind it. -/
import Derived.Test.YtideicoifinnoaaDoorNwA
import Derived.Test.YtideicoifinnoaaDoorNxA
import Derived.Test.YtideicoifinnoaaDoorNtV
import Derived.Test.YtideicoifinnoaaDoorLexQ
import Derived.Test.YtideicoifinnoaaDoorTrC
import Derived.Test.YtideicoifinnoaaDoorTrF
import Derived.Lib.ConvBytes
namespace Go.Proofs.YtideicoifinnoaaDoor
open Go Go.RowKit
open Tp (T)

theorem ba_ext2 {a b : ByteArray} (h : a.data.toList = b.data.toList) : a = b := by
  cases a; cases b; congr 1; exact Array.toList_inj.1 h
theorem conv_bytes (l : List UInt8) (w : World) : ∃ cap w', (convert 9 37 (.string ⟨l.toArray⟩)).run Tryd.prog w = .ok (.slice (some ⟨w.heap.size, 0, none⟩) l.length cap) w' ∧ Holds w' (some ⟨w.heap.size, 0, none⟩) l ∧ Below w.heap.size w w' := by
  have h := Lib.run_convert_string_bytes (P := Tryd.prog) w 9 37 5 ⟨l.toArray⟩ Tryd.underlying9 Tryd.underlying37 Tryd.underlying5
  rw [ba_size] at h
  refine ⟨_, _, h, ?_, Lib.bytesWorld_below w 5 ⟨l.toArray⟩⟩
  · refine Or.inr ⟨_, 0, rfl, by rw [Lib.bytesWorld_size]; omega, fun i hi => ?_⟩
    rw [Nat.zero_add, Lib.bytesWorld_cell w 5 ⟨l.toArray⟩ i (by rw [ba_size]; exact hi)]
    simp [List.getD, List.getElem?_eq_getElem hi]
theorem scanAll_len {l : List UInt8} {L : List Lx.Tok} (h : scanAll l = .good L) : L.length ≤ 100000 := by
  unfold scanAll at h
  split at h
  · cases h
  · have := Lx.scan_len _ l (Nat.lt_succ_self _) 0 L h
    omega
namespace Nt
theorem scans_end {s : List UInt8} {ks : List Tk} (h : Scans s [] ks) : ∃ L : List Lx.Tok, L.map keyT = ks ∧ Lx.scan s 0 = .good L := by
  obtain ⟨ts, h1, h2⟩ := h 0
  refine ⟨ts, h1, ?_⟩
  rw [List.append_nil] at h2
  rw [h2, show Lx.scan [] (0 + s.length) = .good [] from rfl]
  simp [Lx.Res.glue]
/-- What NoteBack puts behind a text. -/
def moreB : Nat → List UInt8
  | 0 => [] | 1 => [32, 41] | 2 => [32, 61] | 3 => [32, 44] | 4 => [32, 120] | 5 => [32, 53] | _ => [32, 105, 110]
def moreK : Nat → List Tk
  | 0 => [] | 1 => [(5, [41])] | 2 => [(5, [61])] | 3 => [(5, [44])] | 4 => [(1, [120])] | 5 => [(3, [])] | _ => [(2, [105, 110])]
theorem more_scans (j : Nat) (hj : j < 7) : Scans (moreB j) [] (moreK j) := by
  have h : j = 0 ∨ j = 1 ∨ j = 2 ∨ j = 3 ∨ j = 4 ∨ j = 5 ∨ j = 6 := by omega
  rcases h with rfl | rfl | rfl | rfl | rfl | rfl | rfl
  · exact fun o => ⟨[], rfl, by rw [Lx.Res.glue_nil]; rfl⟩
  · exact Scans.app (l := [32]) (m := [41]) (scans_blank _) (scans_first (b := ⟨5, 1, [41], 0⟩) (l := []) ⟨by decide, by decide⟩ (by kernel_rfl) rfl)
  · exact Scans.app (l := [32]) (m := [61]) (scans_blank _) (scans_first (b := ⟨5, 1, [61], 0⟩) (l := []) ⟨by decide, by decide⟩ (by kernel_rfl) rfl)
  · exact Scans.app (l := [32]) (m := [44]) (scans_blank _) (scans_first (b := ⟨5, 1, [44], 0⟩) (l := []) ⟨by decide, by decide⟩ (by kernel_rfl) rfl)
  · exact Scans.app (l := [32]) (m := [120]) (scans_blank _) (scans_first (b := ⟨1, 1, [120], 0⟩) (l := []) ⟨by decide, by decide⟩ (by kernel_rfl) rfl)
  · exact Scans.app (l := [32]) (m := [53]) (scans_blank _) (scans_first (b := ⟨3, 1, [], 5⟩) (l := []) ⟨by decide, by decide⟩ (by kernel_rfl) rfl)
  · exact Scans.app (l := [32]) (m := [105, 110]) (scans_blank _) (scans_first (b := ⟨2, 2, [105, 110], 0⟩) (l := [110]) ⟨by decide, by decide⟩ (by kernel_rfl) rfl)
theorem more_facts (j : Nat) (hj : j < 7) : StopB (moreB j) ∧ StopK (moreK j) ∧ (moreB j).length ≤ 3 ∧ (moreK j).length = (if (moreB j == []) = true then 0 else 1) := by
  have h : j = 0 ∨ j = 1 ∨ j = 2 ∨ j = 3 ∨ j = 4 ∨ j = 5 ∨ j = 6 := by omega
  rcases h with rfl | rfl | rfl | rfl | rfl | rfl | rfl
  · exact ⟨(fun c hc => by cases hc), ⟨rfl, rfl, rfl⟩, by decide, rfl⟩
  all_goals exact ⟨stopB_cons (by decide), ⟨by decide, by decide, by decide⟩, by decide, rfl⟩
theorem tk_ne (t : T) (hr : Tp.right t = true) (hc : Tp.without 6 t = true) : tk t ≠ [] := by
  cases view t hr with
  | leaf k n _ => obtain ⟨k', e1, x, e2, e3, e4⟩ := leaf_cases _ hr hc rfl; rw [e2]; simp
  | list x _ => rw [tk_one]; simp
  | two k x y hk _ _ => rw [tk_two]; simp
end Nt
/-- The tokens of a text, with what stands behind it. -/
theorem back_scan {t : T} (hr : Tp.right t = true) (hc : Tp.without 6 t = true) (hs : Tp.size t ≤ 600) {m : List UInt8} {r : List Nt.Tk} (hm : m.length ≤ 100) (hb : Nt.StopB m) (h : Nt.Scans m [] r) : ∃ L, scanAll (Nt.text t ++ m) = .good L ∧ L.map Nt.keyT = Nt.tk t ++ r := by
  have h1 := Nt.scans_text _ t (Nat.le_refl _) hr hc m hb
  obtain ⟨L, h2, h3⟩ := Nt.scans_end (Nt.Scans.app (l := Nt.text t) (m := m) (r := []) (by rw [List.append_nil]; exact h1) h)
  have h4 := Nt.text_small _ t (Nat.le_refl _) hr hc
  refine ⟨L, ?_, h2⟩
  unfold scanAll
  rw [if_neg (by rw [List.length_append]; omega), h3]
theorem ksAt_zero (L : List Lx.Tok) : ksAt L 0 = L.map Nt.keyT := by unfold ksAt; simp
theorem ksAt_app (A B : List Lx.Tok) : ksAt (A ++ B) A.length = B.map Nt.keyT := by unfold ksAt; simp
theorem ksAt_map {L : List Lx.Tok} {a b : List Nt.Tk} (h : L.map Nt.keyT = a ++ b) : ksAt L a.length = b := by
  unfold ksAt
  first
  | rw [← List.map_drop, h, List.drop_left]
  | rw [List.map_drop, h, List.drop_left]
/-- A type's tokens are read from their own place on. -/
theorem back_read {t : T} (hr : Tp.right t = true) (hc : Tp.without 6 t = true) {A L : List Lx.Tok} {r : List Nt.Tk} (h : L.map Nt.keyT = Nt.tk t ++ r) (hs : Nt.StopK r) : readOut (A ++ L) (A.length : Int) = (t, A.length + (Nt.tk t).length, 0) := by
  have hl : L.length = (Nt.tk t).length + r.length := by rw [← List.length_append, ← h, List.length_map]
  refine readOut_ok (by rw [List.length_append]; omega) (by rw [List.length_append]; omega) ?_
  rw [ksAt_app, h, Nt.read_back t hr hc r hs]
  have e : (A ++ L).map Nt.keyT = (A.map Nt.keyT ++ Nt.tk t) ++ r := by rw [List.map_append, h, List.append_assoc]
  have := ksAt_map e
  rw [List.length_append, List.length_map] at this
  rw [this]
end Go.Proofs.YtideicoifinnoaaDoor
