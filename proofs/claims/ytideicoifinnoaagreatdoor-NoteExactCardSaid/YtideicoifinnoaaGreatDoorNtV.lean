/- Plain facts for NoteLoose: types in brackets, read between signs. -/
import Derived.Test.YtideicoifinnoaaGreatDoorNtS
namespace Go.Proofs.YtideicoifinnoaaGreatDoor
open Tp (T)
namespace Nt

def brk (ks : List Tk) : List Tk := (5, [40]) :: (ks ++ [(5, [41])])
def Cl (t : T) : Prop := Tp.right t = true ∧ Tp.without 6 t = true
theorem read_brk {a : T} (h : Cl a) (r : List Tk) (ps : Ps) : read (brk (tk a) ++ r) ps = cont (rest a r ps) := by
  show read ((5, [40]) :: (tk a ++ [(5, [41])]) ++ r) ps = _
  rw [List.cons_append, read_paren, List.append_assoc, List.singleton_append, (read_tk _ a (Nat.le_refl _) h.1 h.2).1 _ _ (stopK_paren r) (plain_paren ps), fin_paren]
theorem read_brk2 {a : T} (h : Cl a) (r : List Tk) (ps : Ps) : read (brk (brk (tk a)) ++ r) ps = cont (rest a r ps) := by
  show read ((5, [40]) :: (brk (tk a) ++ [(5, [41])]) ++ r) ps = _
  rw [List.cons_append, read_paren, List.append_assoc, List.singleton_append, read_brk h, rest_plain (stopK_paren r) (plain_paren ps), fin_paren]
theorem rest_star' {ps : Ps} (hp : topIs 2 ps = false) (a : T) (r : List Tk) : rest a ((5, [42]) :: r) ps = .more r ((2, a) :: ps) := by
  rw [rest_eq, lists_stop (hd_no (by decide))]
  rw [if_pos (by rw [hp]; unfold hd; simp)]
  rfl
theorem rest_arrow' (a : T) (r : List Tk) (ps : Ps) : rest a ((5, [45, 62]) :: r) ps = .more r ((3, (pairK a ps).1) :: (pairK a ps).2) := by
  rw [rest_eq, lists_stop (hd_no (by decide))]
  rw [if_neg (by unfold hd; simp), if_pos (by unfold hd; simp)]
  rfl
theorem rest_end (a : T) (ps : Ps) : rest a [] ps = .done (closeF (pairK a ps).1 (pairK a ps).2).1 [] (closeF (pairK a ps).1 (pairK a ps).2).2 := by
  rw [rest_eq]
  simp [lists, hd]
theorem rest_close (a : T) (r : List Tk) (ps qs : Ps) (h : (closeF (pairK a ps).1 (pairK a ps).2).2 = (1, noT) :: qs) : rest a ((5, [41]) :: r) ps = rest (closeF (pairK a ps).1 (pairK a ps).2).1 r qs := by
  rw [rest_eq, lists_stop (hd_no (by decide))]
  rw [if_neg (by unfold hd; simp), if_neg (by unfold hd; simp), if_pos (by rw [h]; simp [topIs, hd]), h]
  rfl
theorem cont_more (r : List Tk) (ps : Ps) : cont (.more r ps) = read r ps := rfl
theorem loose0 {a b c : T} (ha : Cl a) (hb : Cl b) (hc : Cl c) : read (brk (tk a) ++ (5, [42]) :: (brk (tk b) ++ (5, [45, 62]) :: brk (brk (tk c)))) [] = (some (.mk 9 0 [.mk 7 0 [a, b], c]), []) := by
  have e := read_brk2 hc [] [(3, .mk 7 0 [a, b])]
  rw [List.append_nil] at e
  rw [read_brk ha, rest_star' rfl, cont_more, read_brk hb, rest_arrow', cont_more]
  show read (brk (brk (tk c))) [(3, .mk 7 0 [a, b])] = _
  rw [e, rest_end]
  rfl
theorem loose1 {a b c : T} (ha : Cl a) (hb : Cl b) (hc : Cl c) : read (brk (tk a) ++ (5, [45, 62]) :: (brk (tk b) ++ (5, [45, 62]) :: brk (brk (tk c)))) [] = (some (.mk 9 0 [a, .mk 9 0 [b, c]]), []) := by
  have e := read_brk2 hc [] [(3, b), (3, a)]
  rw [List.append_nil] at e
  rw [read_brk ha, rest_arrow', cont_more]
  show read _ [(3, a)] = _
  rw [read_brk hb, rest_arrow', cont_more]
  show read (brk (brk (tk c))) [(3, b), (3, a)] = _
  rw [e, rest_end]
  rfl
theorem loose2 {a b c : T} (ha : Cl a) (hb : Cl b) (hc : Cl c) : read (brk (tk a) ++ (5, [45, 62]) :: (brk (tk b) ++ (5, [42]) :: (brk (brk (tk c)) ++ [(2, sWord)]))) [] = (some (.mk 9 0 [a, .mk 7 0 [b, .mk 8 0 [c]]]), []) := by
  rw [read_brk ha, rest_arrow', cont_more]
  show read _ [(3, a)] = _
  rw [read_brk hb, rest_star' rfl, cont_more, read_brk2 hc, rest_list, rest_end]
  rfl
theorem loose3 {a b c : T} (ha : Cl a) (hb : Cl b) (hc : Cl c) : read (brk (tk a) ++ (2, sWord) :: (2, sWord) :: (5, [42]) :: (brk (tk b) ++ (2, sWord) :: (5, [45, 62]) :: brk (brk (tk c)))) [] = (some (.mk 9 0 [.mk 7 0 [.mk 8 0 [.mk 8 0 [a]], .mk 8 0 [b]], c]), []) := by
  have e := read_brk2 hc [] [(3, .mk 7 0 [.mk 8 0 [.mk 8 0 [a]], .mk 8 0 [b]])]
  rw [List.append_nil] at e
  rw [read_brk ha, rest_list, rest_list, rest_star' rfl, cont_more, read_brk hb, rest_list, rest_arrow', cont_more]
  show read (brk (brk (tk c))) [(3, .mk 7 0 [.mk 8 0 [.mk 8 0 [a]], .mk 8 0 [b]])] = _
  rw [e, rest_end]
  rfl
theorem loose4 {a b c : T} (ha : Cl a) (hb : Cl b) (hc : Cl c) : read ((5, [40]) :: (5, [40]) :: (brk (tk a) ++ (5, [45, 62]) :: (brk (tk b) ++ (5, [41]) :: (5, [41]) :: (2, sWord) :: (5, [45, 62]) :: brk (brk (tk c))))) [] = (some (.mk 9 0 [.mk 8 0 [.mk 9 0 [a, b]], c]), []) := by
  have e := read_brk2 hc [] [(3, .mk 8 0 [.mk 9 0 [a, b]])]
  rw [List.append_nil] at e
  rw [read_paren, read_paren, read_brk ha, rest_arrow', cont_more]
  show read _ [(3, a), (1, noT), (1, noT)] = _
  rw [read_brk hb, rest_close b _ _ [(1, noT)] rfl]
  show cont (rest (.mk 9 0 [a, b]) _ _) = _
  rw [rest_close (.mk 9 0 [a, b]) _ _ [] rfl]
  show cont (rest (.mk 9 0 [a, b]) _ _) = _
  rw [rest_list, rest_arrow', cont_more]
  show read (brk (brk (tk c))) [(3, .mk 8 0 [.mk 9 0 [a, b]])] = _
  rw [e, rest_end]
  rfl
theorem scans_brk {s r : List UInt8} {ks : List Tk} (h : Scans s (41 :: r) ks) : Scans (40 :: (s ++ [41])) r (brk ks) := scans_paren h
end Nt
end Go.Proofs.YtideicoifinnoaaGreatDoor
