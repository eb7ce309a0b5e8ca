/- Plain facts for NoteLoose: the five sources, their tokens, their readings. -/
import Derived.Test.YtideicoifinnoaaDoorNlA
import Derived.Test.YtideicoifinnoaaDoorNcA
namespace Go.Proofs.YtideicoifinnoaaDoor
open Go Go.RowKit
open Tp (T)

namespace Nt
def brX (s : List UInt8) : List UInt8 := 40 :: (s ++ [41])
def brZ (s : List UInt8) : List UInt8 := 40 :: (brX s ++ [41])
def looseB (j : Nat) (x y z : List UInt8) : List UInt8 := match j with
  | 0 => brX x ++ ([42] ++ (brX y ++ ([45, 62] ++ brZ z)))
  | 1 => brX x ++ ([45, 62] ++ (brX y ++ ([45, 62] ++ brZ z)))
  | 2 => brX x ++ ([45, 62] ++ (brX y ++ ([42] ++ (brZ z ++ sWord))))
  | 3 => brX x ++ ([32] ++ (sWord ++ ([32] ++ (sWord ++ ([42] ++ (brX y ++ ([32] ++ (sWord ++ ([45, 62] ++ brZ z)))))))))
  | _ => [40] ++ ([40] ++ (brX x ++ ([45, 62] ++ (brX y ++ ([41] ++ ([41] ++ (sWord ++ ([45, 62] ++ brZ z))))))))
def looseT (j : Nat) (a b c : T) : T := match j with
  | 0 => .mk 9 0 [.mk 7 0 [a, b], c]
  | 1 => .mk 9 0 [a, .mk 9 0 [b, c]]
  | 2 => .mk 9 0 [a, .mk 7 0 [b, .mk 8 0 [c]]]
  | 3 => .mk 9 0 [.mk 7 0 [.mk 8 0 [.mk 8 0 [a]], .mk 8 0 [b]], c]
  | _ => .mk 9 0 [.mk 8 0 [.mk 9 0 [a, b]], c]
theorem scans_X {a : T} (h : Cl a) (r : List UInt8) : Scans (brX (text a)) r (brk (tk a)) := scans_brk (scans_text _ a (Nat.le_refl _) h.1 h.2 _ (stopB_cons (by decide)))
theorem scans_Z {a : T} (h : Cl a) (r : List UInt8) : Scans (brZ (text a)) r (brk (brk (tk a))) := scans_brk (scans_X h _)
theorem sW (r : List UInt8) (h : StopB r) : Scans sWord r [(2, sWord)] := scans_word sWord (by simp) h
theorem stopB_nil : StopB [] := fun c hc => by cases hc
theorem loose_scan {a b c : T} (ha : Cl a) (hb : Cl b) (hc : Cl c) (j : Nat) : ∃ ks, Scans (looseB j (text a) (text b) (text c)) [] ks ∧ read ks [] = (some (looseT j a b c), []) := by
  match j with
  | 0 => exact ⟨_, Scans.app (scans_X ha _) (Scans.app (scans_sign 42 (by simp) _) (Scans.app (scans_X hb _) (Scans.app (scans_arrow _) (scans_Z hc _)))), loose0 ha hb hc⟩
  | 1 => exact ⟨_, Scans.app (scans_X ha _) (Scans.app (scans_arrow _) (Scans.app (scans_X hb _) (Scans.app (scans_arrow _) (scans_Z hc _)))), loose1 ha hb hc⟩
  | 2 => exact ⟨_, Scans.app (scans_X ha _) (Scans.app (scans_arrow _) (Scans.app (scans_X hb _) (Scans.app (scans_sign 42 (by simp) _) (Scans.app (scans_Z hc _) (sW _ stopB_nil))))), loose2 ha hb hc⟩
  | 3 => exact ⟨_, Scans.app (scans_X ha _) (Scans.app (scans_blank _) (Scans.app (sW _ (stopB_cons (by decide))) (Scans.app (scans_blank _) (Scans.app (sW _ (stopB_cons (by decide))) (Scans.app (scans_sign 42 (by simp) _) (Scans.app (scans_X hb _) (Scans.app (scans_blank _) (Scans.app (sW _ (stopB_cons (by decide))) (Scans.app (scans_arrow _) (scans_Z hc _)))))))))), loose3 ha hb hc⟩
  | _ + 4 => exact ⟨_, Scans.app (scans_sign 40 (by simp) _) (Scans.app (scans_sign 40 (by simp) _) (Scans.app (scans_X ha _) (Scans.app (scans_arrow _) (Scans.app (scans_X hb _) (Scans.app (scans_sign 41 (by simp) _) (Scans.app (scans_sign 41 (by simp) _) (Scans.app (sW _ (stopB_cons (by decide))) (Scans.app (scans_arrow _) (scans_Z hc _))))))))), loose4 ha hb hc⟩
theorem looseB_len (j : Nat) (x y z : List UInt8) : (looseB j x y z).length ≤ x.length + y.length + z.length + 40 := by
  match j with
  | 0 | 1 | 2 | 3 | _ + 4 => simp [looseB, brX, brZ, sWord] <;> omega
end Nt
/-- The tokens of such a source, and what is read. -/
theorem loose_toks {a b c : T} (ha : Nt.Cl a) (hb : Nt.Cl b) (hc : Nt.Cl c) (hs : Tp.size a + Tp.size b + Tp.size c ≤ 600) (j : Nat) :
    ∃ L, scanAll (Nt.looseB j (Nt.text a) (Nt.text b) (Nt.text c)) = .good L ∧ readOut L 0 = (Nt.looseT j a b c, L.length, 0) := by
  obtain ⟨ks, h1, h2⟩ := Nt.loose_scan ha hb hc j
  obtain ⟨L, h3, h4⟩ := Nt.scans_end h1
  have l1 := Nt.text_small _ a (Nat.le_refl _) ha.1 ha.2
  have l2 := Nt.text_small _ b (Nat.le_refl _) hb.1 hb.2
  have l3 := Nt.text_small _ c (Nat.le_refl _) hc.1 hc.2
  have l4 := Nt.looseB_len j (Nt.text a) (Nt.text b) (Nt.text c)
  refine ⟨L, ?_, ?_⟩
  · unfold scanAll
    rw [if_neg (by omega), h4]
  · refine readOut_ok (L := L) (i := 0) (n := L.length) (Nat.zero_le _) (Nat.le_refl _) ?_
    rw [ksAt_zero, h3, h2, ksAt_end (List.getElem?_eq_none_iff.2 (Nat.le_refl _))]
theorem loose_np {a b c : T} (ha : Nt.Cl a) (hb : Nt.Cl b) (hc : Nt.Cl c) (j : Nat) : Nt.Np (Nt.looseT j a b c) := by
  have na := Nt.right_np a ha.1
  have nb := Nt.right_np b hb.1
  have nc := Nt.right_np c hc.1
  unfold Nt.Np
  match j with
  | 0 | 1 | 2 | 3 | _ + 4 => simp [Nt.looseT, Tp.without, Tp.withouts, na, nb, nc]
end Go.Proofs.YtideicoifinnoaaDoor
