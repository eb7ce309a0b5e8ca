/- Expressions gone through with the paths of their nodes. slices.Clone of an expression's kids: what the new row holds. An expression whose rows of kids are laid anew while it is gone through: what is there between two rounds. An expression with other annotations, plainly; the placed expression of one whose rows were laid anew. -/
import Derived.Test.YtmmhpibkjdlkgaaGreatTeR
import Derived.Test.YtmmhpibkjdlkgaaGreatItl
import Derived.Test.YtmmhpibkjdlkgaaGreatTcI
import Derived.Laws.World
import Derived.Test.YtmmhpibkjdlkgaaGreatTdP
namespace Go.Proofs.YtmmhpibkjdlkgaaGreat
open Go Go.RowKit Go.Shelf
open Ex (E)

namespace Px
def kidsFrom : List E → List Nat → Nat → List (E × List Nat) | [], _, _ => [] | x :: r, q, i => (x, i :: q) :: kidsFrom r q (i + 1)
theorem kidsFrom_len : ∀ (l : List E) (q : List Nat) (i : Nat), (kidsFrom l q i).length = l.length
  | [], _, _ => rfl
  | x :: r, q, i => by rw [kidsFrom, List.length_cons, kidsFrom_len r q (i + 1), List.length_cons]
theorem kidsFrom_get : ∀ (l : List E) (q : List Nat) (i j : Nat) (h : j < l.length) (h' : j < (kidsFrom l q i).length), (kidsFrom l q i)[j] = (l[j], (i + j) :: q)
  | [], _, _, j, h, _ => by simp at h
  | x :: r, q, i, 0, _, _ => rfl
  | x :: r, q, i, j + 1, h, _ => by
    simp only [kidsFrom, List.getElem_cons_succ]
    rw [kidsFrom_get r q (i + 1) j (by simpa using h), show i + 1 + j = i + (j + 1) from by omega]
mutual
def vis : E → List Nat → Nat → List ((E × List Nat) × Nat × Nat) | .mk k f t nm ar n s op A B ps l, q, d => visK (.mk k f t nm ar n s op A B ps l, q) l 0 d
def visK : E × List Nat → List E → Nat → Nat → List ((E × List Nat) × Nat × Nat)
  | t, [], i, d => [(t, i, d)]
  | t, x :: r, i, d => (t, i, d) :: (vis x (i :: t.2) (d + 1) ++ visK t r (i + 1) d)
end
mutual
def pre : E → List Nat → Nat → List ((E × List Nat) × Nat × Nat) | .mk k f t nm ar n s op A B ps l, q, d => ((.mk k f t nm ar n s op A B ps l, q), 0, d) :: pres l q 0 (d + 1)
def pres : List E → List Nat → Nat → Nat → List ((E × List Nat) × Nat × Nat)
  | [], _, _, _ => []
  | x :: r, q, i, d => pre x (i :: q) d ++ pres r q (i + 1) d
end
theorem vis_kids (p : E) (q : List Nat) (d : Nat) : vis p q d = visK (p, q) p.kids 0 d := by cases p; rfl
def shape : Shape (E × List Nat) where
  kids t := kidsFrom t.1.kids t.2 0
  vk t i d := visK t (t.1.kids.drop i) i d
  more t i d h := by
    have h1 : i < t.1.kids.length := by rw [← kidsFrom_len t.1.kids t.2 0]; exact h
    rw [List.drop_eq_getElem_cons h1, visK, kidsFrom_get _ _ _ _ h1, Nat.zero_add, List.drop_zero, vis_kids]
  last t i d h := by
    have h1 : ¬ i < t.1.kids.length := by rw [← kidsFrom_len t.1.kids t.2 0]; exact h
    rw [List.drop_eq_nil_of_le (by omega), visK]
mutual
theorem vis_len : ∀ (p : E) (q : List Nat) (d : Nat), (vis p q d).length + 1 = 2 * Ex.size p
  | .mk k f t nm ar n s op A B ps l, q, d => by rw [vis, visK_len _ l 0 d, Ex.size]; omega
theorem visK_len : ∀ (t : E × List Nat) (l : List E) (i d : Nat), (visK t l i d).length = 2 * Ex.sizes l + 1
  | t, [], i, d => by simp [visK, Ex.sizes]
  | t, x :: r, i, d => by
    have h1 := vis_len x (i :: t.2) (d + 1)
    have h2 := visK_len t r (i + 1) d
    simp only [visK, Ex.sizes, List.length_cons, List.length_append, h2]
    omega
end
mutual
theorem vis_nodes : ∀ (p : E) (q : List Nat) (d : Nat), ((vis p q d).filter fun k => k.2.1 == 0) = pre p q d
  | .mk k f t nm ar n s op A B ps l, q, d => by rw [vis, visK_nodes _ l 0 d, pre]; rfl
theorem visK_nodes : ∀ (t : E × List Nat) (l : List E) (i d : Nat), ((visK t l i d).filter fun k => k.2.1 == 0) = (if i = 0 then [(t, 0, d)] else []) ++ pres l t.2 i (d + 1)
  | t, [], i, d => by
    by_cases h : i = 0
    · simp [visK, pres, h]
    · simp [visK, pres, h]
  | t, x :: r, i, d => by
    have h1 := vis_nodes x (i :: t.2) (d + 1)
    have h2 := visK_nodes t r (i + 1) d
    rw [if_neg (by omega), List.nil_append] at h2
    rw [visK, List.filter_cons, List.filter_append, h1, h2, pres]
    by_cases h : i = 0
    · simp [h]
    · simp [h]
end
theorem nKeys_shape (p : E × List Nat) : nKeys shape p = pre p.1 p.2 1 := by
  show ((visK p (p.1.kids.drop 0) 0 1).filter fun k => k.2.1 == 0) = _
  rw [List.drop_zero, ← vis_kids, vis_nodes]
theorem vk_len (p : E × List Nat) : (shape.vk p 0 1).length ≤ 2 * Ex.size p.1 := by
  obtain ⟨p, q⟩ := p
  have := vis_len p q 1
  rw [vis_kids] at this
  show (visK (p, q) (p.kids.drop 0) 0 1).length ≤ 2 * Ex.size p
  rw [List.drop_zero]; omega
mutual
/-- The nodes without their paths are the tree's. -/
theorem pre_fst : ∀ (p : E) (q : List Nat) (d : Nat), ((pre p q d).map fun k => (k.1.1, k.2)) = Ex.pre p d
  | .mk k f t nm ar n s op A B ps l, q, d => by rw [pre, Ex.pre, List.map_cons, pres_fst l q 0 (d + 1)]
theorem pres_fst : ∀ (l : List E) (q : List Nat) (i d : Nat), ((pres l q i d).map fun k => (k.1.1, k.2)) = Ex.pres l d
  | [], _, _, _ => by simp [pres, Ex.pres]
  | x :: r, q, i, d => by rw [pres, Ex.pres, List.map_append, pre_fst x (i :: q) d, pres_fst r q (i + 1) d]
end
mutual
theorem pre_path : ∀ (p : E) (q : List Nat) (d : Nat) (k : (E × List Nat) × Nat × Nat), k ∈ pre p q d → ∃ r, k.1.2 = r ++ q
  | .mk k0 f t nm ar n s op A B ps l, q, d, k, h => by
    rw [pre] at h
    rcases List.mem_cons.1 h with rfl | h
    · exact ⟨[], rfl⟩
    · obtain ⟨r, j, _, h1⟩ := pres_path l q 0 (d + 1) k h
      exact ⟨r ++ [j], by rw [h1]; simp⟩
theorem pres_path : ∀ (l : List E) (q : List Nat) (i d : Nat) (k : (E × List Nat) × Nat × Nat), k ∈ pres l q i d → ∃ r j, i ≤ j ∧ k.1.2 = r ++ j :: q
  | [], _, _, _, k, h => by simp [pres] at h
  | x :: s, q, i, d, k, h => by
    rw [pres] at h
    rcases List.mem_append.1 h with h | h
    · obtain ⟨r, h1⟩ := pre_path x (i :: q) d k h
      exact ⟨r, i, Nat.le_refl _, h1⟩
    · obtain ⟨r, j, h1, h2⟩ := pres_path s q (i + 1) d k h
      exact ⟨r, j, by omega, h2⟩
end
theorem path_ne {r s q : List Nat} {i j : Nat} (h : i ≠ j) : r ++ i :: q ≠ s ++ j :: q := by
  intro e
  have e2 : (r ++ [i]) ++ q = (s ++ [j]) ++ q := by simpa using e
  have e3 := List.append_cancel_right e2
  have := congrArg List.getLast? e3
  simp at this
  exact h this
theorem path_ne2 {r q : List Nat} {j : Nat} : r ++ j :: q ≠ q := by
  intro e
  have := congrArg List.length e
  simp at this
  omega
mutual
theorem pre_nodup : ∀ (p : E) (q : List Nat) (d : Nat), ((pre p q d).map fun k => k.1.2).Nodup
  | .mk k0 f t nm ar n s op A B ps l, q, d => by
    rw [pre, List.map_cons, List.nodup_cons]
    refine ⟨fun h => ?_, pres_nodup l q 0 (d + 1)⟩
    obtain ⟨k, hk, e⟩ := List.mem_map.1 h
    obtain ⟨r, j, _, h2⟩ := pres_path l q 0 (d + 1) k hk
    rw [h2] at e
    exact path_ne2 e
theorem pres_nodup : ∀ (l : List E) (q : List Nat) (i d : Nat), ((pres l q i d).map fun k => k.1.2).Nodup
  | [], _, _, _ => by simp [pres]
  | x :: s, q, i, d => by
    rw [pres, List.map_append, List.nodup_append]
    refine ⟨pre_nodup x (i :: q) d, pres_nodup s q (i + 1) d, fun a ha b hb e => ?_⟩
    subst e
    obtain ⟨k, hk, e⟩ := List.mem_map.1 ha
    obtain ⟨k', hk', e'⟩ := List.mem_map.1 hb
    obtain ⟨r, h2⟩ := pre_path x (i :: q) d k hk
    obtain ⟨r', j, hj, h3⟩ := pres_path s q (i + 1) d k' hk'
    rw [h2] at e; rw [h3] at e'
    exact path_ne (show i ≠ j by omega) (e.trans e'.symm)
end
end Px
end Go.Proofs.YtmmhpibkjdlkgaaGreat
namespace Go.Proofs.YtmmhpibkjdlkgaaGreat
open Go Go.RowKit Go.Shelf
open Ex (E)

theorem ev_one (e : E) (s : Leads) : ∀ u ∈ evCells e s, u.oneCell' = true := by
  intro u hu
  simp only [evCells, List.mem_cons, List.not_mem_nil, or_false] at hu
  rcases hu with rfl | rfl | rfl | rfl | rfl | rfl | rfl | rfl | rfl | rfl | rfl | rfl | rfl | rfl | rfl | rfl <;> rfl
/-- A row of expressions that was laid anew: their cells as they were. -/
structure KRow (n0 : Nat) (w0 : World) (l : List E) (a : Option Addr) (cap base : Nat) (W : World) : Prop where
  room : l.length ≤ cap ∧ cap ≤ maxLen
  flat : Flat a
  kids : l ≠ [] → ∃ g, a = some ⟨g, 0, none⟩ ∧ base ≤ g ∧ g < W.heap.size ∧ (∀ o, W.frozen? ⟨g, o, none⟩ = false) ∧ ∀ i (h : i < l.length), ∃ s, ExAt (LT n0) w0 l[i] s ∧ ECells W g (i * 16) l[i] s
/-- What is read of a row. -/
def rowCells (w : World) (b o n : Nat) : List Value := (List.range n).map fun j => (w.cell? ⟨b, o + j, none⟩).getD undef
theorem rowCells_get {w : World} {b o n j : Nat} (h : j < n) : (rowCells w b o n)[j]? = some ((w.cell? ⟨b, o + j, none⟩).getD undef) := by
  unfold rowCells
  rw [List.getElem?_map, List.getElem?_range h]; rfl
theorem kid_cell {n0 : Nat} {w0 : World} {l : List E} {b o : Nat} (hN : ∀ i (h : i < l.length), ENode (LT n0) w0 l[i] b (o + i * 16)) {j : Nat} (hj : j < l.length * 16) :
    ∃ u, w0.cell? ⟨b, o + j, none⟩ = some u ∧ u.oneCell' = true := by
  have hi : j / 16 < l.length := by omega
  obtain ⟨s, _, hc⟩ := (hN _ hi).parts
  have hr : j % 16 < (evCells l[j / 16] s).length := by simp only [evCells, List.length_cons, List.length_nil]; omega
  refine ⟨(evCells l[j / 16] s)[j % 16], ?_, ev_one _ _ _ (List.getElem_mem hr)⟩
  have := hc (j % 16) _ (List.getElem?_eq_getElem hr)
  rw [show o + j / 16 * 16 + j % 16 = o + j from by omega] at this
  exact this
/-- Where a row begins: anywhere, if it is empty. -/
theorem row_case {G : Nat → Prop} {W : World} {l : List E} {a : Option Addr} (h : EKids G W l a) : l = [] ∨ ∃ b o, a = some ⟨b, o, none⟩ := by
  cases l with
  | nil => exact .inl rfl
  | cons x r => simp only [EKids] at h; obtain ⟨b, o, e, _⟩ := h; exact .inr ⟨b, o, e⟩
set_option maxRecDepth 100000 in
set_option maxHeartbeats 1000000 in
theorem clone_kids {n0 : Nat} {w0 W : World} (l : List E) (a : Option Addr) (c : Nat) (hk : EKids (LT n0) w0 l a) (hb : Below n0 w0 W) (hbig : l.length ≤ 10000) :
    Calls Tryz.prog 52 #[.slice a l.length c] W fun e w' => (∃ a' cap', e = .returned (.slice a' l.length cap') ∧ KRow n0 w0 l a' cap' W.heap.size w') ∧ Below W.heap.size W w' := by
  rcases row_case hk with rfl | ⟨b, o, rfl⟩
  · cases a with
    | none =>
      refine (Tryz.cloneE_nil 0 c W).mono ?_
      rintro e w' ⟨rfl, rfl⟩
      exact ⟨⟨none, 0, rfl, ⟨Nat.le_refl _, Nat.zero_le _⟩, .inl rfl, fun h => absurd rfl h⟩, Below.refl _ _⟩
    | some p =>
      refine (cloneE_zero p c W).mono ?_
      rintro e w' ⟨v', rfl, hown, _, hbw⟩
      refine ⟨?_, hbw⟩
      obtain ⟨h1, ⟨h2, h2'⟩ | ⟨g, cap, cur, h3, h4, h5, h6, h7, h8⟩⟩ := id hown
      · exact ⟨none, 0, by rw [h2]; rfl, ⟨Nat.le_refl _, Nat.zero_le _⟩, .inl rfl, fun h => absurd rfl h⟩
      · subst h3
        exact ⟨_, cap, rfl, ⟨h6, h7⟩, .inr ⟨g, 0, rfl⟩, fun h => absurd rfl h⟩
  · have hN : ∀ i (h : i < l.length), ENode (LT n0) w0 l[i] b (o + i * 16) := EKids.nodes l b o hk
    have hbn : l ≠ [] → b < n0 := fun h => by
      obtain ⟨b', o', e, hG, _⟩ := hk.first (List.length_pos_iff.2 h)
      injection e with e; injection e with e1
      rw [e1]; exact hG
    have hinf := info_exprs
    obtain ⟨i0, hi0, hz⟩ := Option.bind_eq_some_iff.1 hinf
    obtain ⟨z, hz0, hz1⟩ := Option.map_eq_some_iff.1 hz
    injection hz1 with z1 z2
    injection z2 with z2 z3
    refine (Tryz.cloneE_any i0 z 216 hi0 hz0 z1 z2 z3 size_exprs b o l.length c (rowCells w0 b o (l.length * 16)) W (by simp [rowCells]) (by unfold maxLen; omega) (by omega) ?_ ?_).mono ?_
    · intro j u hu
      have hj : j < l.length * 16 := by
        have := (List.getElem?_eq_some_iff.1 hu).1
        simpa [rowCells] using this
      rw [rowCells_get hj] at hu
      obtain ⟨v, hv, _⟩ := kid_cell hN hj
      rw [hv] at hu
      injection hu with hu
      rw [← hu]
      have hne : l ≠ [] := by rintro rfl; simp at hj
      exact (hb.cell (p := ⟨b, o + j, none⟩) (hbn hne)).trans hv
    · intro u hu
      obtain ⟨j, hj, rfl⟩ := List.mem_map.1 hu
      obtain ⟨v, hv, h1⟩ := kid_cell hN (List.mem_range.1 hj)
      rw [hv]; exact h1
    · rintro e w' ⟨v', rfl, hown, _, hbw⟩
      refine ⟨?_, hbw⟩
      obtain ⟨h1, ⟨h2, h2'⟩ | ⟨g, cap, cur, h3, h4, h5, h6, h7, h8⟩⟩ := id hown
      · have hl : l = [] := List.length_eq_zero_iff.1 h2'
        subst hl
        exact ⟨none, 0, by rw [h2]; rfl, ⟨Nat.le_refl _, Nat.zero_le _⟩, .inl rfl, fun h => absurd rfl h⟩
      · subst h3
        refine ⟨_, cap, rfl, ⟨h6, h7⟩, .inr ⟨g, 0, rfl⟩, fun _ => ⟨g, rfl, h4, (Array.getElem?_eq_some_iff.1 h5).1, fun o => by simp [World.frozen?, h5], fun i hi => ?_⟩⟩
        obtain ⟨s, hs, hc⟩ := (hN i hi).parts
        refine ⟨s, hs, fun j v hv => ?_⟩
        have hj : j < 16 := by have := (List.getElem?_eq_some_iff.1 hv).1; simpa [evCells] using this
        have hcell := hc j v hv
        have := hown.cells (g := g) rfl (i * 16 + j) v (by
          rw [rowCells_get (by omega), show o + (i * 16 + j) = o + i * 16 + j from by omega, hcell]; rfl)
        rwa [add_flat, Nat.zero_add] at this
end Go.Proofs.YtmmhpibkjdlkgaaGreat
namespace Go.Proofs.YtmmhpibkjdlkgaaGreat
open Go Go.RowKit Go.Shelf
open Ex (E)

/-- Where the node at a path lies: in the row of the node above. -/
def plc (B0 : Nat) (G : List Nat → Nat) : List Nat → Nat × Nat | [] => (B0, 0) | i :: q => (G q, i * 16)
def Known (e0 : E) (pre : List (Vi (E × List Nat))) (t : E × List Nat) : Prop := t = (e0, []) ∨ ∃ y ∈ pre, ∃ i, ∃ h : i < y.t.1.kids.length, t = (y.t.1.kids[i], i :: y.t.2)
def paths (pre : List (Vi (E × List Nat))) : List (List Nat) := pre.map fun y => y.t.2
/-- A node that lies, but perhaps for where its kids are. -/
def LayE (n0 : Nat) (w0 V : World) (e : E) (b o : Nat) (raw : Prop) : Prop := ∃ s, ExAt (LT n0) w0 e s ∧ ∀ j v, (evCells e s)[j]? = some v → j < 15 ∨ raw → V.cell? ⟨b, o + j, none⟩ = some v
/-- The blocks that it lies in, beside those of before. -/
def Used (B0 : Nat) (G : List Nat → Nat) (pre : List (Vi (E × List Nat))) (k : Nat) : Prop := k = B0 ∨ ∃ y ∈ pre, y.t.1.kids ≠ [] ∧ k = G y.t.2
structure Cop (n0 B0 base : Nat) (w0 : World) (e0 : E) (G : List Nat → Nat) (pre : List (Vi (E × List Nat))) (V : World) : Prop where
  low : Below n0 w0 V
  b0 : n0 ≤ B0 ∧ B0 < base ∧ base ≤ V.heap.size
  fz : ∀ k, Used B0 G pre k → ∀ o, V.frozen? ⟨k, o, none⟩ = false
  kn : ∀ y ∈ pre, Known e0 pre y.t
  fresh : ∀ y ∈ pre, y.t.1.kids ≠ [] → base ≤ G y.t.2 ∧ G y.t.2 < V.heap.size
  inj : ∀ y ∈ pre, ∀ y' ∈ pre, y.t.1.kids ≠ [] → y'.t.1.kids ≠ [] → G y.t.2 = G y'.t.2 → y.t.2 = y'.t.2
  pl : ∀ y ∈ pre, y.p = some ⟨(plc B0 G y.t.2).1, (plc B0 G y.t.2).2, none⟩
  lay : ∀ t, Known e0 pre t → LayE n0 w0 V t.1 (plc B0 G t.2).1 (plc B0 G t.2).2 (t.2 ∉ paths pre)
  done : ∀ y ∈ pre, ∃ a cap, V.cell? ⟨(plc B0 G y.t.2).1, (plc B0 G y.t.2).2 + 15, none⟩ = some (.slice a y.t.1.kids.length cap) ∧ (y.t.1.kids.length ≤ cap ∧ cap ≤ maxLen) ∧ Flat a ∧ (y.t.1.kids ≠ [] → a = some ⟨G y.t.2, 0, none⟩)
theorem Known.mono {e0 : E} {pre pre' : List (Vi (E × List Nat))} {t : E × List Nat} (h : Known e0 pre t) (hs : ∀ y ∈ pre, y ∈ pre') : Known e0 pre' t := by
  rcases h with h | ⟨y, hy, i, hi, h⟩
  · exact .inl h
  · exact .inr ⟨y, hs y hy, i, hi, h⟩
theorem plc_16 (B0 : Nat) (G : List Nat → Nat) (q : List Nat) : (plc B0 G q).2 % 16 = 0 := by
  cases q with
  | nil => rfl
  | cons i q => show i * 16 % 16 = 0; omega
theorem kids_ne {l : List E} {i : Nat} (h : i < l.length) : l ≠ [] := by rintro rfl; simp at h
section
variable {n0 B0 base : Nat} {w0 V V' : World} {e0 : E} {G : List Nat → Nat} {pre : List (Vi (E × List Nat))}
theorem used_of {t : E × List Nat} (hk : Known e0 pre t) : Used B0 G pre (plc B0 G t.2).1 := by
  rcases hk with rfl | ⟨y, hy, i, hi, rfl⟩
  · exact .inl rfl
  · exact .inr ⟨y, hy, kids_ne hi, rfl⟩
theorem Cop.lt (h : Cop n0 B0 base w0 e0 G pre V) {k : Nat} (hu : Used B0 G pre k) : n0 ≤ k ∧ k < V.heap.size := by
  have hb := h.b0
  rcases hu with rfl | ⟨y, hy, hne, rfl⟩
  · omega
  · have := h.fresh y hy hne; omega
theorem Cop.same (h : Cop n0 B0 base w0 e0 G pre V) (hlow : Below n0 w0 V') (hsz : V.heap.size ≤ V'.heap.size) (hu : ∀ k, Used B0 G pre k → V'.heap[k]? = V.heap[k]?) : Cop n0 B0 base w0 e0 G pre V' := by
  have hc : ∀ t, Known e0 pre t → ∀ o, V'.cell? ⟨(plc B0 G t.2).1, o, none⟩ = V.cell? ⟨(plc B0 G t.2).1, o, none⟩ := fun t ht o => World.cell?_of_block (a := ⟨(plc B0 G t.2).1, o, none⟩) (hu _ (used_of ht))
  refine ⟨hlow, ⟨h.b0.1, h.b0.2.1, Nat.le_trans h.b0.2.2 hsz⟩, fun k hk o => by rw [← h.fz k hk o]; unfold World.frozen?; rw [hu k hk], h.kn, fun y hy hne => ⟨(h.fresh y hy hne).1, Nat.lt_of_lt_of_le (h.fresh y hy hne).2 hsz⟩, h.inj, h.pl, fun t ht => ?_, fun y hy => ?_⟩
  · obtain ⟨s, hs, hcs⟩ := h.lay t ht
    exact ⟨s, hs, fun j v hv hj => (hc t ht _).trans (hcs j v hv hj)⟩
  · obtain ⟨a, cap, h1, h2⟩ := h.done y hy
    exact ⟨a, cap, (hc _ (h.kn y hy) _).trans h1, h2⟩
theorem Cop.plc_inj (h : Cop n0 B0 base w0 e0 G pre V) {t t' : E × List Nat} (ht : Known e0 pre t) (ht' : Known e0 pre t') (he : plc B0 G t.2 = plc B0 G t'.2) : t.2 = t'.2 := by
  have hb := h.b0
  rcases ht with rfl | ⟨y, hy, i, hi, rfl⟩
  · rcases ht' with rfl | ⟨y', hy', j, hj, rfl⟩
    · rfl
    · injection he with h1 h2
      have := h.fresh y' hy' (kids_ne hj)
      omega
  · rcases ht' with rfl | ⟨y', hy', j, hj, rfl⟩
    · injection he with h1 h2
      have := h.fresh y hy (kids_ne hi)
      omega
    · injection he with h1 h2
      have e1 := h.inj y hy y' hy' (kids_ne hi) (kids_ne hj) h1
      have e2 : i = j := by omega
      show i :: y.t.2 = j :: y'.t.2
      rw [e1, e2]
theorem Cop.start (hb : n0 ≤ B0 ∧ B0 < base ∧ base ≤ V.heap.size) (hlow : Below n0 w0 V) {s : Leads} (hs : ExAt (LT n0) w0 e0 s) (hc : ECells V B0 0 e0 s) (hf : ∀ o, V.frozen? ⟨B0, o, none⟩ = false) : Cop n0 B0 base w0 e0 (fun _ => 0) [] V := by
  refine ⟨hlow, hb, fun k hk o => ?_, (fun _ h => by cases h), (fun _ h => by cases h), (fun _ h => by cases h), (fun _ h => by cases h), fun t ht => ?_, (fun _ h => by cases h)⟩
  · rcases hk with rfl | ⟨_, h, _⟩
    · exact hf o
    · cases h
  rcases ht with rfl | ⟨_, h, _⟩
  · exact ⟨s, hs, fun j v hv _ => hc j v hv⟩
  · cases h
/-- One node's kids are laid anew. -/
theorem Cop.step (h : Cop n0 B0 base w0 e0 G pre V) {x : Vi (E × List Nat)} (hk : Known e0 pre x.t) (hnp : x.t.2 ∉ paths pre) (hp : x.p = some ⟨(plc B0 G x.t.2).1, (plc B0 G x.t.2).2, none⟩) {V1 : World} (hb1 : Below V.heap.size V V1) {a : Option Addr} {cap : Nat} (hr : KRow n0 w0 x.t.1.kids a cap V.heap.size V1) :
    ∃ G', Cop n0 B0 base w0 e0 G' (pre ++ [x]) (V1.setCell ⟨(plc B0 G x.t.2).1, (plc B0 G x.t.2).2 + 15, none⟩ (.slice a x.t.1.kids.length cap)) ∧ ∀ k, Used B0 G' (pre ++ [x]) k → Used B0 G pre k ∨ (V.heap.size ≤ k ∧ k < V1.heap.size) := by
  obtain ⟨g, hg⟩ : ∃ g, x.t.1.kids ≠ [] → a = some ⟨g, 0, none⟩ ∧ V.heap.size ≤ g ∧ g < V1.heap.size ∧ (∀ o, V1.frozen? ⟨g, o, none⟩ = false) ∧ ∀ i (h : i < x.t.1.kids.length), ∃ s, ExAt (LT n0) w0 x.t.1.kids[i] s ∧ ECells V1 g (i * 16) x.t.1.kids[i] s := by
    by_cases hne : x.t.1.kids = []
    · exact ⟨0, fun h => absurd hne h⟩
    · obtain ⟨g, h1⟩ := hr.kids hne
      exact ⟨g, fun _ => h1⟩
  obtain ⟨G', hG'⟩ : ∃ G' : List Nat → Nat, G' = fun q => if q = x.t.2 then g else G q := ⟨_, rfl⟩
  have hGx : G' x.t.2 = g := by rw [hG']; exact if_pos rfl
  have hGo : ∀ q, q ≠ x.t.2 → G' q = G q := fun q hq => by rw [hG']; exact if_neg hq
  have hpp : ∀ y ∈ pre, y.t.2 ≠ x.t.2 := fun y hy e => hnp (e ▸ List.mem_map.2 ⟨y, hy, rfl⟩)
  have hpl : ∀ t, Known e0 pre t → plc B0 G' t.2 = plc B0 G t.2 := by
    rintro t (rfl | ⟨y, hy, i, hi, rfl⟩)
    · rfl
    · show (G' y.t.2, i * 16) = (G y.t.2, i * 16)
      rw [hGo _ (hpp y hy)]
  obtain ⟨bx, hbx⟩ : ∃ b, (plc B0 G x.t.2).1 = b := ⟨_, rfl⟩
  obtain ⟨ox, hox⟩ : ∃ o, (plc B0 G x.t.2).2 = o := ⟨_, rfl⟩
  have hux : n0 ≤ bx ∧ bx < V.heap.size := by rw [← hbx]; exact h.lt (used_of hk)
  have hox16 : ox % 16 = 0 := by rw [← hox]; exact plc_16 _ _ _
  rw [hbx, hox] at hp ⊢
  obtain ⟨V2, hV2⟩ : ∃ V2, V1.setCell ⟨bx, ox + 15, none⟩ (.slice a x.t.1.kids.length cap) = V2 := ⟨_, rfl⟩
  have hsz2 : V2.heap.size = V1.heap.size := by rw [← hV2]; simp
  have hoth : ∀ b o, ¬ (b = bx ∧ o = ox + 15) → V2.cell? ⟨b, o, none⟩ = V1.cell? ⟨b, o, none⟩ := fun b o hne => by
    rw [← hV2]
    exact World.cell?_setCell_other _ _ _ _ (fun e => by injection e with e1 e2; exact hne ⟨e1.symm, e2.symm⟩)
  have hold : ∀ t, Known e0 pre t → ∀ o, V1.cell? ⟨(plc B0 G t.2).1, o, none⟩ = V.cell? ⟨(plc B0 G t.2).1, o, none⟩ := fun t ht o => hb1.cell (p := ⟨(plc B0 G t.2).1, o, none⟩) (h.lt (used_of ht)).2
  rw [hV2]
  have hmem : ∀ y ∈ pre ++ [x], y ∈ pre ∨ y = x := fun y hy => by simpa using hy
  have hmono : ∀ t, Known e0 pre t → Known e0 (pre ++ [x]) t := fun t ht => ht.mono fun y hy => List.mem_append_left _ hy
  have hb := h.b0
  have hs1 := hb1.size
  have hpth : ∀ q, q ∉ paths (pre ++ [x]) → q ∉ paths pre ∧ q ≠ x.t.2 := fun q hq => ⟨fun hm => hq (by unfold paths at hm ⊢; rw [List.map_append]; exact List.mem_append_left _ hm), fun e => hq (by unfold paths; rw [List.map_append, e]; simp)⟩
  refine ⟨G', ⟨?_, ⟨hb.1, hb.2.1, by omega⟩, ?_, ?_, ?_, ?_, ?_, ?_, ?_⟩, ?_⟩
  · rw [← hV2]
    exact (h.low.trans (hb1.mono (by omega))).setCell (p := ⟨bx, ox + 15, none⟩) hux.1 _
  · intro k hk o
    have hfz : V2.frozen? ⟨k, o, none⟩ = V1.frozen? ⟨k, o, none⟩ := by rw [← hV2]; exact World.frozen?_setCell _ _ _ _
    rw [hfz]
    have hold2 : ∀ k, Used B0 G pre k → V1.frozen? ⟨k, o, none⟩ = false := fun k hk => by
      rw [← h.fz k hk o]; unfold World.frozen?; rw [hb1.block k (h.lt hk).2]
    rcases hk with rfl | ⟨y, hy, hne, rfl⟩
    · exact hold2 _ (.inl rfl)
    · rcases hmem y hy with hy | rfl
      · rw [hGo _ (hpp y hy)]; exact hold2 _ (.inr ⟨y, hy, hne, rfl⟩)
      · rw [hGx]; exact (hg hne).2.2.2.1 o
  · intro y hy
    rcases hmem y hy with hy | rfl
    · exact hmono _ (h.kn y hy)
    · exact hmono _ hk
  · intro y hy hne
    rcases hmem y hy with hy | rfl
    · rw [hGo _ (hpp y hy)]; have := h.fresh y hy hne; omega
    · rw [hGx]; obtain ⟨_, h1, h2, _, _⟩ := hg hne; omega
  · intro y hy0 y' hy0' hne hne' he
    rcases hmem y hy0 with hy | hyx
    · rcases hmem y' hy0' with hy' | hyx'
      · rw [hGo _ (hpp y hy), hGo _ (hpp y' hy')] at he
        exact h.inj y hy y' hy' hne hne' he
      · rw [hyx'] at hne' he
        rw [hGo _ (hpp y hy), hGx] at he
        have := h.fresh y hy hne; obtain ⟨_, h1, _⟩ := hg hne'; omega
    · rw [hyx] at hne he ⊢
      rcases hmem y' hy0' with hy' | hyx'
      · rw [hGo _ (hpp y' hy'), hGx] at he
        have := h.fresh y' hy' hne'; obtain ⟨_, h1, _⟩ := hg hne; omega
      · rw [hyx']
  · intro y hy
    rcases hmem y hy with hy | rfl
    · rw [hpl _ (h.kn y hy)]; exact h.pl y hy
    · rw [hpl _ hk, hbx, hox]; exact hp
  · intro t ht
    have hcase : Known e0 pre t ∨ ∃ i, ∃ h : i < x.t.1.kids.length, t = (x.t.1.kids[i], i :: x.t.2) := by
      rcases ht with rfl | ⟨y, hy, i, hi, rfl⟩
      · exact .inl (.inl rfl)
      · rcases hmem y hy with hy | rfl
        · exact .inl (.inr ⟨y, hy, i, hi, rfl⟩)
        · exact .inr ⟨i, hi, rfl⟩
    rcases hcase with ht | ⟨i, hi, rfl⟩
    · obtain ⟨s, hs, hc⟩ := h.lay t ht
      refine ⟨s, hs, fun j v hv hj => ?_⟩
      rw [hpl t ht]
      have hj16 : j < 16 := by have := (List.getElem?_eq_some_iff.1 hv).1; simpa [evCells] using this
      have ho16 := plc_16 B0 G t.2
      rw [hoth _ _ ?_, hold t ht]
      · exact hc j v hv (hj.imp id fun h => (hpth _ h).1)
      · rintro ⟨e1, e2⟩
        have hj15 : j = 15 := by omega
        have hraw := hj.resolve_left (by omega)
        refine (hpth _ hraw).2 (h.plc_inj ht hk ?_)
        rw [Prod.ext_iff]
        exact ⟨e1.trans hbx.symm, by rw [hox]; omega⟩
    · obtain ⟨_, hg1, hg2, _, hg3⟩ := hg (kids_ne hi)
      obtain ⟨s, hs, hc⟩ := hg3 i hi
      refine ⟨s, hs, fun j v hv _ => ?_⟩
      show V2.cell? ⟨G' x.t.2, i * 16 + j, none⟩ = some v
      rw [hGx, hoth _ _ (fun e => by omega)]
      exact hc j v hv
  · intro y hy
    rcases hmem y hy with hy | rfl
    · obtain ⟨a', cap', h1, h2, h3, h4⟩ := h.done y hy
      refine ⟨a', cap', ?_, h2, h3, fun hne => by rw [h4 hne, hGo _ (hpp y hy)]⟩
      rw [hpl _ (h.kn y hy), hoth _ _ ?_, hold _ (h.kn y hy)]
      · exact h1
      · rintro ⟨e1, e2⟩
        refine hpp y hy (h.plc_inj (h.kn y hy) hk ?_)
        rw [Prod.ext_iff]
        exact ⟨e1.trans hbx.symm, by rw [hox]; omega⟩
    · refine ⟨a, cap, ?_, hr.room, hr.flat, fun hne => by rw [hGx]; exact (hg hne).1⟩
      rw [hpl _ hk, hbx, hox, ← hV2]
      obtain ⟨s, hs, hc⟩ := h.lay _ hk
      have h15 := hc 15 _ rfl (.inr hnp)
      rw [hbx, hox] at h15
      exact World.cell?_setCell_same _ _ _ ((hb1.cell (p := ⟨bx, ox + 15, none⟩) hux.2).trans h15)
  · intro k hu
    rcases hu with rfl | ⟨y, hy, hne, rfl⟩
    · exact .inl (.inl rfl)
    · rcases hmem y hy with hy | rfl
      · rw [hGo _ (hpp y hy)]; exact .inl (.inr ⟨y, hy, hne, rfl⟩)
      · rw [hGx]; obtain ⟨_, h1, h2, _, _⟩ := hg hne; exact .inr ⟨h1, h2⟩
end
end Go.Proofs.YtmmhpibkjdlkgaaGreat
namespace Go.Proofs.YtmmhpibkjdlkgaaGreat
open Go Go.RowKit Go.Shelf
open Ex (E)
open Dx (D)

namespace Ex
mutual
/-- With these types in the places of its annotations. -/
def wth : E → List Tp.T → E
  | .mk k f t nm ar n s op A B ps l, m => .mk k f t nm ar n s op (if Tp.none A then A else m.headD A) (if Tp.none B then B else (m.drop (if Tp.none A then 0 else 1)).headD B) ps (wths l (m.drop (annT A B).length))
def wths : List E → List Tp.T → List E
  | [], _ => []
  | x :: r, m => wth x m :: wths r (m.drop (anns x).length)
end
theorem wths_len : ∀ (l : List E) (m : List Tp.T), (wths l m).length = l.length
  | [], _ => by simp [wths]
  | x :: r, m => by rw [wths, List.length_cons, wths_len r, List.length_cons]
end Ex
/-- Where the annotations are: the path of the node, and which one. -/
def ownK (A B : Tp.T) (q : List Nat) : List (List Nat × Nat) := (if Tp.none A then [] else [(q, 8)]) ++ (if Tp.none B then [] else [(q, 11)])
mutual
def ak : E → List Nat → List (List Nat × Nat) | .mk _ _ _ _ _ _ _ _ A B _ l, q => ownK A B q ++ aks l q 0
def aks : List E → List Nat → Nat → List (List Nat × Nat) | [], _, _ => [] | x :: r, q, i => ak x (i :: q) ++ aks r q (i + 1)
end
theorem ownK_len (A B : Tp.T) (q : List Nat) : (ownK A B q).length = (annT A B).length := by
  unfold ownK annT
  cases Tp.none A <;> cases Tp.none B <;> rfl
mutual
theorem ak_len : ∀ (e : E) (q : List Nat), (ak e q).length = (Ex.anns e).length
  | .mk k f t nm ar n s op A B ps l, q => by rw [ak, Ex.anns, List.length_append, List.length_append, ownK_len, aks_len l q 0]
theorem aks_len : ∀ (l : List E) (q : List Nat) (i : Nat), (aks l q i).length = (Ex.annss l).length
  | [], _, _ => by simp [aks, Ex.annss]
  | x :: r, q, i => by rw [aks, Ex.annss, List.length_append, List.length_append, ak_len x (i :: q), aks_len r q (i + 1)]
end
theorem ownK_mem {A B : Tp.T} {q : List Nat} {p : List Nat × Nat} (h : p ∈ ownK A B q) : p.1 = q ∧ ((p.2 = 8 ∧ Tp.none A = false) ∨ (p.2 = 11 ∧ Tp.none B = false)) := by
  unfold ownK at h
  rcases List.mem_append.1 h with h | h
  · cases hA : Tp.none A with
    | true => rw [hA] at h; simp at h
    | false => rw [hA] at h; simp at h; subst h; exact ⟨rfl, .inl ⟨rfl, rfl⟩⟩
  · cases hB : Tp.none B with
    | true => rw [hB] at h; simp at h
    | false => rw [hB] at h; simp at h; subst h; exact ⟨rfl, .inr ⟨rfl, rfl⟩⟩
mutual
theorem ak_mem : ∀ (e : E) (q : List Nat) (d : Nat) (p : List Nat × Nat), p ∈ ak e q → ∃ k ∈ Px.pre e q d, p.1 = k.1.2 ∧ ((p.2 = 8 ∧ Tp.none k.1.1.a = false) ∨ (p.2 = 11 ∧ Tp.none k.1.1.b = false))
  | .mk k f t nm ar n s op A B ps l, q, d, p, h => by
    rw [ak] at h
    rw [Px.pre]
    rcases List.mem_append.1 h with h | h
    · obtain ⟨h1, h2⟩ := ownK_mem h
      exact ⟨_, List.mem_cons_self .., h1, h2⟩
    · obtain ⟨k', h1, h2⟩ := aks_mem l q 0 (d + 1) p h
      exact ⟨k', List.mem_cons_of_mem _ h1, h2⟩
theorem aks_mem : ∀ (l : List E) (q : List Nat) (i d : Nat) (p : List Nat × Nat), p ∈ aks l q i → ∃ k ∈ Px.pres l q i d, p.1 = k.1.2 ∧ ((p.2 = 8 ∧ Tp.none k.1.1.a = false) ∨ (p.2 = 11 ∧ Tp.none k.1.1.b = false))
  | [], _, _, _, p, h => by simp [aks] at h
  | x :: r, q, i, d, p, h => by
    rw [aks] at h
    rw [Px.pres]
    rcases List.mem_append.1 h with h | h
    · obtain ⟨k', h1, h2⟩ := ak_mem x (i :: q) d p h
      exact ⟨k', List.mem_append_left _ h1, h2⟩
    · obtain ⟨k', h1, h2⟩ := aks_mem r q (i + 1) d p h
      exact ⟨k', List.mem_append_right _ h1, h2⟩
end
theorem ownK_nodup (A B : Tp.T) (q : List Nat) : (ownK A B q).Nodup := by
  unfold ownK
  cases Tp.none A <;> cases Tp.none B <;> simp
mutual
theorem ak_nodup : ∀ (e : E) (q : List Nat), (ak e q).Nodup
  | .mk k0 f t nm ar n s op A B ps l, q => by
    rw [ak, List.nodup_append]
    refine ⟨ownK_nodup A B q, aks_nodup l q 0, fun a ha b hb e => ?_⟩
    subst e
    obtain ⟨k, hk, e, _⟩ := aks_mem l q 0 0 a hb
    obtain ⟨r, j, _, h2⟩ := Px.pres_path l q 0 0 k hk
    rw [(ownK_mem ha).1, h2] at e
    exact Px.path_ne2 e.symm
theorem aks_nodup : ∀ (l : List E) (q : List Nat) (i : Nat), (aks l q i).Nodup
  | [], _, _ => by simp [aks]
  | x :: s, q, i => by
    rw [aks, List.nodup_append]
    refine ⟨ak_nodup x (i :: q), aks_nodup s q (i + 1), fun a ha b hb e => ?_⟩
    subst e
    obtain ⟨k, hk, e, _⟩ := ak_mem x (i :: q) 0 a ha
    obtain ⟨k', hk', e', _⟩ := aks_mem s q (i + 1) 0 a hb
    obtain ⟨r, h2⟩ := Px.pre_path x (i :: q) 0 k hk
    obtain ⟨r', j, hj, h3⟩ := Px.pres_path s q (i + 1) 0 k' hk'
    rw [h2] at e; rw [h3] at e'
    exact Px.path_ne (show i ≠ j by omega) (e.symm.trans e')
end
mutual
/-- The placed expression. -/
def bld (B0 : Nat) (G : List Nat → Nat) : E → List Nat → D | .mk k f t nm ar n s op A B ps l, q => .mk (.mk k f t nm ar n s op A B ps l) (plc B0 G q).1 (plc B0 G q).2 (blds B0 G l q 0)
def blds (B0 : Nat) (G : List Nat → Nat) : List E → List Nat → Nat → List D | [], _, _ => [] | x :: r, q, i => bld B0 G x (i :: q) :: blds B0 G r q (i + 1)
end
section
variable {B0 : Nat} {G : List Nat → Nat}
theorem bld_e (e : E) (q : List Nat) : (bld B0 G e q).e = e := by cases e; rfl
theorem bld_b (e : E) (q : List Nat) : (bld B0 G e q).b = (plc B0 G q).1 := by cases e; rfl
theorem bld_o (e : E) (q : List Nat) : (bld B0 G e q).o = (plc B0 G q).2 := by cases e; rfl
theorem bld_l (e : E) (q : List Nat) : (bld B0 G e q).l = blds B0 G e.kids q 0 := by cases e; rfl
theorem bld_at (e : E) (q : List Nat) : (bld B0 G e q).at = some ⟨(plc B0 G q).1, (plc B0 G q).2, none⟩ := by cases e; rfl
theorem blds_len : ∀ (l : List E) (q : List Nat) (i : Nat), (blds B0 G l q i).length = l.length
  | [], _, _ => by simp [blds]
  | x :: r, q, i => by rw [blds, List.length_cons, blds_len r, List.length_cons]
theorem blds_get : ∀ (l : List E) (q : List Nat) (i j : Nat) (h : j < l.length) (h' : j < (blds B0 G l q i).length), (blds B0 G l q i)[j] = bld B0 G l[j] ((i + j) :: q)
  | [], _, _, j, h, _ => by simp at h
  | x :: r, q, i, 0, _, _ => by simp [blds]
  | x :: r, q, i, j + 1, h, _ => by
    simp only [blds, List.getElem_cons_succ]
    rw [blds_get r q (i + 1) j (by simpa using h), show i + 1 + j = i + (j + 1) from by omega]
mutual
theorem bld_size : ∀ (e : E) (q : List Nat), Dx.size (bld B0 G e q) = Ex.size e
  | .mk k f t nm ar n s op A B ps l, q => by rw [bld, Dx.size, blds_size l q 0, Ex.size]
theorem blds_size : ∀ (l : List E) (q : List Nat) (i : Nat), Dx.sizes (blds B0 G l q i) = Ex.sizes l
  | [], _, _ => by simp [blds, Dx.sizes, Ex.sizes]
  | x :: r, q, i => by rw [blds, Dx.sizes, bld_size x (i :: q), blds_size r q (i + 1), Ex.sizes]
end
mutual
theorem bld_pre : ∀ (e : E) (q : List Nat) (d : Nat), Dx.pre (bld B0 G e q) d = (Px.pre e q d).map fun k => (bld B0 G k.1.1 k.1.2, k.2)
  | .mk k f t nm ar n s op A B ps l, q, d => by
    rw [Px.pre, List.map_cons, ← blds_pre l q 0 (d + 1)]
    simp only [bld, Dx.pre]
theorem blds_pre : ∀ (l : List E) (q : List Nat) (i d : Nat), Dx.pres (blds B0 G l q i) d = (Px.pres l q i d).map fun k => (bld B0 G k.1.1 k.1.2, k.2)
  | [], _, _, _ => by simp [blds, Dx.pres, Px.pres]
  | x :: r, q, i, d => by rw [blds, Dx.pres, Px.pres, List.map_append, bld_pre x (i :: q) d, blds_pre r q (i + 1) d]
end
/-- Where an annotation lies. -/
def plcA (B0 : Nat) (G : List Nat → Nat) (p : List Nat × Nat) : Option Addr := some ⟨(plc B0 G p.1).1, (plc B0 G p.1).2 + p.2, none⟩
theorem ownK_plc (e : E) (q : List Nat) (d : Nat) : Dx.anns (bld B0 G e q, 0, d) = (ownK e.a e.b q).map (plcA B0 G) := by
  unfold Dx.anns annL ownK
  rw [bld_b, bld_o, bld_e]
  cases Tp.none e.a <;> cases Tp.none e.b <;> rfl
mutual
theorem ak_plc : ∀ (e : E) (q : List Nat) (d : Nat), (Dx.pre (bld B0 G e q) d).flatMap Dx.anns = (ak e q).map (plcA B0 G)
  | .mk k f t nm ar n s op A B ps l, q, d => by
    have h1 := ownK_plc (B0 := B0) (G := G) (.mk k f t nm ar n s op A B ps l) q d
    have h2 := aks_plc l q 0 (d + 1)
    rw [ak, List.map_append, ← h2, ← show Dx.anns (bld B0 G (.mk k f t nm ar n s op A B ps l) q, 0, d) = (ownK A B q).map (plcA B0 G) from h1]
    simp only [bld, Dx.pre, List.flatMap_cons]
theorem aks_plc : ∀ (l : List E) (q : List Nat) (i d : Nat), (Dx.pres (blds B0 G l q i) d).flatMap Dx.anns = (aks l q i).map (plcA B0 G)
  | [], _, _, _ => by simp [blds, Dx.pres, aks]
  | x :: r, q, i, d => by rw [blds, Dx.pres, aks, List.flatMap_append, List.map_append, ak_plc x (i :: q) d, aks_plc r q (i + 1) d]
end
theorem annsAll_bld (e : E) : Dx.annsAll (bld B0 G e []) = (ak e []).map (plcA B0 G) := ak_plc e [] 1
variable {n0 base : Nat} {w0 V : World} {e0 : E} {xs : List (Vi (E × List Nat))}
theorem node_vis (hx : xs.map Vi.key = Px.pre e0 [] 1) {k : (E × List Nat) × Nat × Nat} (hk : k ∈ Px.pre e0 [] 1) : ∃ y ∈ xs, y.t = k.1 := by
  rw [← hx] at hk
  obtain ⟨y, hy, rfl⟩ := List.mem_map.1 hk
  exact ⟨y, hy, rfl⟩
theorem lay_none {e : E} {b o : Nat} {r : Prop} (h : LayE n0 w0 V e b o r) : NoneAt V b (o + 8) (Tp.none e.a) ∧ NoneAt V b (o + 11) (Tp.none e.b) := by
  obtain ⟨s, _, hc⟩ := h
  exact ⟨⟨e.a, s.aa, s.ac, hc 8 _ rfl (.inl (by omega)), hc 9 _ rfl (.inl (by omega)), hc 10 _ rfl (.inl (by omega)), rfl⟩, ⟨e.b, s.ba, s.bc, hc 11 _ rfl (.inl (by omega)), hc 12 _ rfl (.inl (by omega)), hc 13 _ rfl (.inl (by omega)), rfl⟩⟩
/-- When all rows are laid anew, the placed expression is what a walk over annotations needs. -/
theorem Cop.all (h : Cop n0 B0 base w0 e0 G xs V) (hx : xs.map Vi.key = Px.pre e0 [] 1) : AllAt V.heap.size (bld B0 G e0 []) V := by
  intro k hk
  rw [bld_pre] at hk
  obtain ⟨k', hk', rfl⟩ := List.mem_map.1 hk
  obtain ⟨y, hy, hyt⟩ := node_vis hx hk'
  have hkn := h.kn y hy
  obtain ⟨a, cap, h1, h2, h3, h4⟩ := h.done y hy
  obtain ⟨hna, hnb⟩ := lay_none (h.lay _ hkn)
  rw [hyt] at hkn h1 h2 h4 hna hnb
  refine ⟨?_, ⟨a, cap, ?_, fun hl => ?_⟩, ?_, ?_⟩
  · show (bld B0 G k'.1.1 k'.1.2).b < _
    rw [bld_b]; exact (h.lt (used_of hkn)).2
  · show V.cell? ⟨(bld B0 G k'.1.1 k'.1.2).b, (bld B0 G k'.1.1 k'.1.2).o + 15, none⟩ = some (.slice a (bld B0 G k'.1.1 k'.1.2).l.length cap)
    rw [bld_b, bld_o, bld_l, blds_len]; exact h1
  · replace hl : 0 < (bld B0 G k'.1.1 k'.1.2).l.length := hl
    rw [bld_l, blds_len] at hl
    refine ⟨G k'.1.2, 0, h4 (fun e => by rw [e] at hl; simp at hl), fun i hi => ?_⟩
    replace hi : i < (bld B0 G k'.1.1 k'.1.2).l.length := hi
    have hi2 : i < k'.1.1.kids.length := by rw [bld_l, blds_len] at hi; exact hi
    show (bld B0 G k'.1.1 k'.1.2).l[i].at = _
    have e1 : (bld B0 G k'.1.1 k'.1.2).l[i] = bld B0 G k'.1.1.kids[i] ((0 + i) :: k'.1.2) := by
      have := blds_get (B0 := B0) (G := G) k'.1.1.kids k'.1.2 0 i hi2 (by rw [blds_len]; exact hi2)
      rw [← this]
      congr 1
      exact bld_l _ _
    rw [e1, bld_at, Nat.zero_add, Nat.zero_add]; rfl
  · show NoneAt V (bld B0 G k'.1.1 k'.1.2).b ((bld B0 G k'.1.1 k'.1.2).o + 8) (Tp.none (bld B0 G k'.1.1 k'.1.2).e.a)
    rw [bld_b, bld_o, bld_e]; exact hna
  · show NoneAt V (bld B0 G k'.1.1 k'.1.2).b ((bld B0 G k'.1.1 k'.1.2).o + 11) (Tp.none (bld B0 G k'.1.1 k'.1.2).e.b)
    rw [bld_b, bld_o, bld_e]; exact hnb
end
end Go.Proofs.YtmmhpibkjdlkgaaGreat
