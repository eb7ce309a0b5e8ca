/- The store in memory: its box, and its nodes in a row of its own. -/
import Derived.Test.YtaaapdfdedknfaaStA
import Derived.Test.YtaaapdfdedknfaaAgL
import Derived.Test.YtaaapdfdedknfaaSeqA
import Derived.Test.YtaaapdfdedknfaaSeqR
import Derived.Deep.QuietTactic
import Derived.Deep.RegionLaw
namespace Go.Proofs.Ytaaapdfdedknfaa
open Go Go.RowKit
open Tp (T)
/-- Below n, what is none of M stays. -/
structure Kp (n : Nat) (M : Nat → Prop) (w w' : World) : Prop where
  os : w'.os = w.os
  tape : w'.tape = w.tape
  output : w'.output = w.output
  size : w.heap.size ≤ w'.heap.size
  block : ∀ k, k < n → ¬ M k → w'.heap[k]? = w.heap[k]?
theorem Kp.refl (n : Nat) (M : Nat → Prop) (w : World) : Kp n M w w := ⟨rfl, rfl, rfl, Nat.le_refl _, fun _ _ _ => rfl⟩
theorem Kp.trans {n : Nat} {M : Nat → Prop} {a b c : World} (h : Kp n M a b) (k : Kp n M b c) : Kp n M a c :=
  ⟨k.os.trans h.os, k.tape.trans h.tape, k.output.trans h.output, Nat.le_trans h.size k.size, fun i hi hM => (k.block i hi hM).trans (h.block i hi hM)⟩
theorem Kp.mono {n n' : Nat} {M M' : Nat → Prop} {a b : World} (h : Kp n M a b) (hn : n' ≤ n) (hM : ∀ k, k < n' → M k → M' k) : Kp n' M' a b :=
  ⟨h.os, h.tape, h.output, h.size, fun i hi hm => h.block i (by omega) fun x => hm (hM i hi x)⟩
theorem Kp.of_turns {n : Nat} {M M' : Nat → Prop} {a b : World} (h : Turns M a b) (hn : n ≤ a.heap.size) (hM : ∀ k, M k → M' k) : Kp n M' a b :=
  ⟨h.os, h.tape, h.output, h.size, fun i hi hm => h.block i (by omega) fun x => hm (hM i x)⟩
theorem Kp.of_below {n : Nat} {M : Nat → Prop} {a b : World} (h : Below n a b) : Kp n M a b := ⟨h.os, h.tape, h.output, h.size, fun i hi _ => h.block i hi⟩
theorem Kp.below {n m : Nat} {M : Nat → Prop} {a b : World} (h : Kp n M a b) (hn : m ≤ n) (hM : ∀ k, M k → m ≤ k) : Below m a b :=
  ⟨h.os, h.tape, h.output, h.size, fun i hi => h.block i (by omega) fun x => by have := hM i x; omega⟩
theorem Kp.alloc {n : Nat} {M : Nat → Prop} {a b : World} (h : Kp n M a b) (hn : n ≤ b.heap.size) (o : Obj) : Kp n M a (b.alloc o) := h.trans (.of_below ((Below.refl n b).alloc hn o))
theorem Kp.drew {n : Nat} {M : Nat → Prop} {a b : World} (h : Kp n M a b) : Kp n M a b.drew := ⟨h.os, h.tape, h.output, h.size, h.block⟩
theorem Kp.drewN {n : Nat} {M : Nat → Prop} {a b : World} (h : Kp n M a b) (j : Nat) : Kp n M a (b.drewN j) := ⟨h.os, h.tape, h.output, h.size, h.block⟩
theorem Kp.setCell {n : Nat} {M : Nat → Prop} {a b : World} (h : Kp n M a b) {p : Addr} (hp : n ≤ p.block ∨ M p.block) (v : Value) : Kp n M a (b.setCell p v) := by
  refine h.trans ⟨rfl, rfl, rfl, by simp [World.setCell], fun i hi hM => Below.heap_setCell _ _ _ i fun e => ?_⟩
  rcases hp with hp | hp
  · omega
  · exact hM (e ▸ hp)
theorem Kp.grown {n : Nat} {M : Nat → Prop} {a b c : World} {row : Option Nat} (h : Kp n M a b) (hg : b.grownBy c row) (hn : n ≤ b.heap.size) (hr : ∀ k, row = some k → n ≤ k ∨ M k) : Kp n M a c :=
  h.trans ⟨hg.os, hg.tape, hg.output, hg.size, fun i hi hM => hg.block i (by omega) fun e => by
    rcases hr i e.symm with hp | hp
    · omega
    · exact hM hp⟩
theorem Kp.heap {n : Nat} {M : Nat → Prop} {a b : World} (h : Kp n M a b) {k : Nat} {o : Obj} (hk : a.heap[k]? = some o) (hn : k < n) (hM : ¬ M k) : b.heap[k]? = some o := (h.block k hn hM).trans hk
theorem own_mk {B sz n cap : Nat} {e : TypeId} {w : World} {A : Array Value} {b : Nat} (h : w.heap[b]? = some (.cells A e)) (hb : B ≤ b) (hn : n ≤ cap) (hc : cap ≤ maxLen) (hs : A.size = cap * sz) : w.ownsRow B e sz (.slice (some ⟨b, 0, none⟩) n cap) n (A.toList.take (n * sz)) :=
  ⟨by rw [List.length_take, Array.length_toList, hs, Nat.min_eq_left (Nat.mul_le_mul_right _ hn)], .inr ⟨b, cap, A, rfl, hb, h, hn, hc, hs, rfl⟩⟩
theorem Kp.cell {n : Nat} {M : Nat → Prop} {a b : World} (h : Kp n M a b) {k o : Nat} {u : Value} (hc : a.cell? ⟨k, o, none⟩ = some u) (hn : k < n) (hM : ¬ M k) : b.cell? ⟨k, o, none⟩ = some u :=
  (World.cell?_of_block (a := ⟨k, o, none⟩) (h.block k hn hM)).trans hc
theorem pt_int {p n : Nat} (h : p < n) : (0 : Int) ≤ (p : Int) ∧ (p : Int) < (n : Int) := ⟨Int.natCast_nonneg p, by omega⟩
namespace Sg
def ndCells (d : Nd) : List Value := [.int .i64 d.c.kind, .int .i64 d.c.level, .int .i64 d.c.a, .int .i64 d.c.b, .int .i64 (d.up : Int), .int .i64 d.c.met]
def ndRow (G : List Nd) : List Value := G.flatMap ndCells
theorem ndRow_len : ∀ G : List Nd, (ndRow G).length = G.length * 6
  | [] => rfl
  | e :: r => by
    have := ndRow_len r
    simp only [ndRow, List.flatMap_cons, List.length_append, List.length_cons, ndCells, List.length_nil] at this ⊢
    omega
theorem ndRow_cons (d : Nd) (G : List Nd) : ndRow (d :: G) = ndCells d ++ ndRow G := by simp [ndRow]
theorem ndRow_snoc (G : List Nd) (d : Nd) : ndRow (G ++ [d]) = ndRow G ++ ndCells d := by simp [ndRow]
theorem ndRow_at : ∀ {G : List Nd} {p : Nat} {d : Nd}, G[p]? = some d → ∀ j, j < 6 → (ndRow G)[p * 6 + j]? = (ndCells d)[j]?
  | [], p, d, h, _, _ => by simp at h
  | t :: r, 0, d, h, j, hj => by
    simp only [List.getElem?_cons_zero, Option.some.injEq] at h
    subst h
    rw [ndRow_cons, Nat.zero_mul, Nat.zero_add, List.getElem?_append_left (by simp [ndCells]; omega)]
  | t :: r, p + 1, d, h, j, hj => by
    rw [ndRow_cons, List.getElem?_append_right (by simp [ndCells]; omega)]
    have ih := ndRow_at (G := r) (p := p) (by simpa using h) j hj
    rw [show (p + 1) * 6 + j - (ndCells t).length = p * 6 + j from by simp [ndCells]; omega, ih]
/-- A field of a node is written. -/
theorem ndRow_set : ∀ {G : List Nd} {p : Nat} {d e : Nd} {j : Nat} {v : Value}, G[p]? = some d → j < 6 → (ndCells d).set j v = ndCells e → (ndRow G).set (p * 6 + j) v = ndRow (G.set p e)
  | [], p, d, e, j, v, h, _, _ => by simp at h
  | t :: r, 0, d, e, j, v, h, hj, hv => by
    simp only [List.getElem?_cons_zero, Option.some.injEq] at h
    subst h
    rw [List.set_cons_zero, ndRow_cons, ndRow_cons, ← hv, Nat.zero_mul, Nat.zero_add, List.set_append_left _ _ (by simp [ndCells]; omega)]
  | t :: r, p + 1, d, e, j, v, h, hj, hv => by
    rw [List.set_cons_succ, ndRow_cons, ndRow_cons, ← ndRow_set (G := r) (p := p) (by simpa using h) hj hv, List.set_append_right _ _ (by simp [ndCells]; omega)]
    congr 2
    simp [ndCells]; omega
theorem nd_one (d : Nd) : ∀ u ∈ ndCells d, u.oneCell' = true := by
  intro u hu
  simp only [ndCells, List.mem_cons, List.not_mem_nil, or_false] at hu
  rcases hu with rfl | rfl | rfl | rfl | rfl | rfl <;> rfl
end Sg
open Sg (Of Rt)
abbrev SNd := Sg.Nd
theorem elem_nd : Try.prog.underlying 87 = some (.slice (Try.prog.elem 87)) := by kernel_rfl
theorem info_nd : (Try.prog.info? 92).map (fun i => (i.zero, i.size, i.bytes)) = some (some (.agg #[.int .i64 0, .int .i64 0, .int .i64 0, .int .i64 0, .int .i64 0, .int .i64 0]), 6, 48) := by kernel_rfl
/-- THE STORE: its box s, its row of nodes in block g; L: its limit, C: its count, K: its walks; H: its nodes, each with its root. -/
structure SV (B s g cap : Nat) (L C K : Int) (w : World) (H : List SNd) : Prop where
  row : ∃ G, Of G H ∧ w.ownsRow B 92 6 (.slice (some ⟨g, 0, none⟩) G.length cap) G.length (Sg.ndRow G)
  box : w.heap[s]? = some (.cells #[.int .i64 L, .int .i64 C, .slice (some ⟨g, 0, none⟩) H.length cap, .int .i64 K] 89)
  lo : B ≤ s
theorem SV.far {B s g cap : Nat} {L C K : Int} {w : World} {H : List SNd} (h : SV B s g cap L C K w H) : B ≤ g ∧ g < w.heap.size ∧ s < w.heap.size ∧ s ≠ g := by
  obtain ⟨G, hO, hown⟩ := h.row
  rcases hown.2 with ⟨h1, _⟩ | ⟨g', cap', cur, h1, h2, h3, h4⟩
  · cases h1
  · injection h1 with h1 _ _
    injection h1 with h1
    injection h1 with h1
    subst h1
    refine ⟨h2, (Array.getElem?_eq_some_iff.1 h3).1, (Array.getElem?_eq_some_iff.1 h.box).1, fun e => ?_⟩
    rw [← e, h.box] at h3
    injection h3 with h3
    injection h3 with _ h5
    exact absurd h5 (by decide)
/-- What stays of the store where its two blocks stay. -/
theorem SV.same {B s g cap : Nat} {L C K : Int} {w w' : World} {H : List SNd} (h : SV B s g cap L C K w H) (hs : w'.heap[s]? = w.heap[s]?) (hg : w'.heap[g]? = w.heap[g]?) : SV B s g cap L C K w' H := by
  obtain ⟨G, h1, h2⟩ := h.row
  exact ⟨⟨G, h1, own_same h2 (fun k e => by injection e with e; dsimp only at e; rw [← e]; exact hg)⟩, hs.trans h.box, h.lo⟩
theorem SV.below {B s g cap : Nat} {L C K : Int} {w w' : World} {H : List SNd} (h : SV B s g cap L C K w H) (hb : Below w.heap.size w w') : SV B s g cap L C K w' H :=
  h.same (hb.block s h.far.2.2.1) (hb.block g h.far.2.1)
theorem SV.sbox {B s g cap : Nat} {L C K : Int} {w : World} {H : List SNd} (h : SV B s g cap L C K w H) : w.cell? ⟨s, 0, none⟩ = some (.int .i64 L) ∧ w.cell? ⟨s, 1, none⟩ = some (.int .i64 C) ∧ w.cell? ⟨s, 2, none⟩ = some (.slice (some ⟨g, 0, none⟩) H.length cap) ∧ w.cell? ⟨s, 3, none⟩ = some (.int .i64 K) :=
  ⟨cell_box h.box rfl rfl, cell_box h.box rfl rfl, cell_box h.box rfl rfl, cell_box h.box rfl rfl⟩
/-- The cells of a node. -/
theorem nd_cells {B g cap n : Nat} {w : World} {G : List SNd} (h : w.ownsRow B 92 6 (.slice (some ⟨g, 0, none⟩) n cap) n (Sg.ndRow G)) {p : Nat} {d : SNd} (hd : G[p]? = some d) :
    w.cell? ⟨g, p * 6, none⟩ = some (.int .i64 d.c.kind) ∧ w.cell? ⟨g, p * 6 + 1, none⟩ = some (.int .i64 d.c.level) ∧ w.cell? ⟨g, p * 6 + 2, none⟩ = some (.int .i64 d.c.a) ∧ w.cell? ⟨g, p * 6 + 2 + 1, none⟩ = some (.int .i64 d.c.b) ∧ w.cell? ⟨g, p * 6 + 4, none⟩ = some (.int .i64 (d.up : Int)) ∧ w.cell? ⟨g, p * 6 + 5, none⟩ = some (.int .i64 d.c.met) := by
  have k : ∀ j, j < 6 → ∀ u, (Sg.ndCells d)[j]? = some u → w.cell? ⟨g, p * 6 + j, none⟩ = some u := fun j hj u hu => by
    have := h.cells (g := g) rfl (p * 6 + j) u (by rw [Sg.ndRow_at hd j hj]; exact hu)
    rwa [add_flat, Nat.zero_add] at this
  exact ⟨k 0 (by omega) _ rfl, k 1 (by omega) _ rfl, k 2 (by omega) _ rfl, k 3 (by omega) _ rfl, k 4 (by omega) _ rfl, k 5 (by omega) _ rfl⟩
/-- What a node says, whatever its way. -/
theorem SV.node {B s g cap : Nat} {L C K : Int} {w : World} {H : List SNd} (h : SV B s g cap L C K w H) {p : Nat} {d : SNd} (hd : H[p]? = some d) :
    w.cell? ⟨g, p * 6, none⟩ = some (.int .i64 d.c.kind) ∧ w.cell? ⟨g, p * 6 + 1, none⟩ = some (.int .i64 d.c.level) ∧ w.cell? ⟨g, p * 6 + 2, none⟩ = some (.int .i64 d.c.a) ∧ w.cell? ⟨g, p * 6 + 2 + 1, none⟩ = some (.int .i64 d.c.b) ∧ w.cell? ⟨g, p * 6 + 5, none⟩ = some (.int .i64 d.c.met) := by
  obtain ⟨G, hO, hown⟩ := h.row
  obtain ⟨e, he, hc, _⟩ := hO.get hd
  obtain ⟨c0, c1, c2, c3, c4, c5⟩ := nd_cells hown he
  rw [hc] at c0 c1 c2 c3 c5
  exact ⟨c0, c1, c2, c3, c5⟩
theorem SV.thaw {B s g cap : Nat} {L C K : Int} {w : World} {H : List SNd} (h : SV B s g cap L C K w H) (o : Nat) : w.frozen? ⟨g, o, none⟩ = false := by
  obtain ⟨G, hO, hown⟩ := h.row
  exact hown.frozenAt _
/-- What a node says is written: one field. -/
theorem SV.say {B s g cap : Nat} {L C K : Int} {w : World} {H : List SNd} (h : SV B s g cap L C K w H) {p j : Nat} {d : SNd} (hd : H[p]? = some d) (c : Sg.Cr) (v : Value) (hj : j < 6) (hv : ∀ u, (Sg.ndCells ⟨d.c, u⟩).set j v = Sg.ndCells ⟨c, u⟩) :
    SV B s g cap L C K (w.setCell ⟨g, p * 6 + j, none⟩ v) (H.set p { d with c := c }) := by
  obtain ⟨G, hO, hown⟩ := h.row
  obtain ⟨e, he, hc, _⟩ := hO.get hd
  refine ⟨⟨G.set p { e with c := c }, hO.say he hd c, ?_⟩, ?_, h.lo⟩
  · rw [List.length_set, ← Sg.ndRow_set he hj (by have := hv e.up; rw [← hc] at this; exact this)]
    exact (hown.stored (p * 6 + j) _).1
  · rw [List.length_set, Below.heap_setCell _ _ _ s h.far.2.2.2]
    exact h.box
/-- One of the box's numbers is written. -/
theorem SV.num {B s g cap : Nat} {L C K : Int} {w : World} {H : List SNd} (h : SV B s g cap L C K w H) (j : Nat) (x L' C' K' : Int) (hj : (j = 1 ∧ L' = L ∧ C' = x ∧ K' = K) ∨ (j = 3 ∧ L' = L ∧ C' = C ∧ K' = x)) : SV B s g cap L' C' K' (w.setCell ⟨s, j, none⟩ (.int .i64 x)) H := by
  obtain ⟨G, h1, h2⟩ := h.row
  have hne := h.far.2.2.2
  refine ⟨⟨G, h1, own_same h2 (fun k e => by injection e with e; dsimp only at e; rw [← e]; exact Below.heap_setCell _ _ _ g (Ne.symm hne))⟩, ?_, h.lo⟩
  have hb := box_set (i := j) (v := .int .i64 x) h.box
  rcases hj with ⟨rfl, rfl, rfl, rfl⟩ | ⟨rfl, rfl, rfl, rfl⟩
  · exact hb
  · exact hb
end Go.Proofs.Ytaaapdfdedknfaa
