/- The store in memory: its box, and its nodes in a row of its own. store's small functions: leaf, arity, Count, room, have, Root. store.Root: the root of a node; the way there made shorter. store.Kind, Level, kids; Root of what is no node. store's add, Var, Make, New: nodes are created. store.Level, kids, Var. store.Make. store.New: the store with its five first nodes. -/
import Derived.Test.YteolbbgnkbcfmaaAgP
import Derived.Test.YteolbbgnkbcfmaaAgL
import Derived.Test.YteolbbgnkbcfmaaSeqA
import Derived.Test.YteolbbgnkbcfmaaSeqR
import Derived.Deep.QuietTactic
import Derived.Deep.RegionLaw
namespace Go.Proofs.Yteolbbgnkbcfmaa
open Go Go.RowKit
open Tp (T)
/-- Below n, what is none of M stays. -/
structure Kp (n : Nat) (M : Nat → Prop) (w w' : World) : Prop where
  os : w'.os = w.os
  tape : w'.tape = w.tape
  output : w'.output = w.output
  size : w.heap.size ≤ w'.heap.size
  block : ∀ k, k < n → ¬ M k → w'.heap[k]? = w.heap[k]?
theorem Kp.refl (n : Nat) (M : Nat → Prop) (w : World) : Kp n M w w := ⟨rfl, rfl, rfl, Nat.le_refl _, fun _ _ _ => rfl⟩
theorem Kp.trans {n : Nat} {M : Nat → Prop} {a b c : World} (h : Kp n M a b) (k : Kp n M b c) : Kp n M a c :=
  ⟨k.os.trans h.os, k.tape.trans h.tape, k.output.trans h.output, Nat.le_trans h.size k.size, fun i hi hM => (k.block i hi hM).trans (h.block i hi hM)⟩
theorem Kp.mono {n n' : Nat} {M M' : Nat → Prop} {a b : World} (h : Kp n M a b) (hn : n' ≤ n) (hM : ∀ k, k < n' → M k → M' k) : Kp n' M' a b :=
  ⟨h.os, h.tape, h.output, h.size, fun i hi hm => h.block i (by omega) fun x => hm (hM i hi x)⟩
theorem Kp.of_turns {n : Nat} {M M' : Nat → Prop} {a b : World} (h : Turns M a b) (hn : n ≤ a.heap.size) (hM : ∀ k, M k → M' k) : Kp n M' a b :=
  ⟨h.os, h.tape, h.output, h.size, fun i hi hm => h.block i (by omega) fun x => hm (hM i x)⟩
theorem Kp.of_below {n : Nat} {M : Nat → Prop} {a b : World} (h : Below n a b) : Kp n M a b := ⟨h.os, h.tape, h.output, h.size, fun i hi _ => h.block i hi⟩
theorem Kp.below {n m : Nat} {M : Nat → Prop} {a b : World} (h : Kp n M a b) (hn : m ≤ n) (hM : ∀ k, M k → m ≤ k) : Below m a b :=
  ⟨h.os, h.tape, h.output, h.size, fun i hi => h.block i (by omega) fun x => by have := hM i x; omega⟩
theorem Kp.alloc {n : Nat} {M : Nat → Prop} {a b : World} (h : Kp n M a b) (hn : n ≤ b.heap.size) (o : Obj) : Kp n M a (b.alloc o) := h.trans (.of_below ((Below.refl n b).alloc hn o))
theorem Kp.drew {n : Nat} {M : Nat → Prop} {a b : World} (h : Kp n M a b) : Kp n M a b.drew := ⟨h.os, h.tape, h.output, h.size, h.block⟩
theorem Kp.drewN {n : Nat} {M : Nat → Prop} {a b : World} (h : Kp n M a b) (j : Nat) : Kp n M a (b.drewN j) := ⟨h.os, h.tape, h.output, h.size, h.block⟩
theorem Kp.setCell {n : Nat} {M : Nat → Prop} {a b : World} (h : Kp n M a b) {p : Addr} (hp : n ≤ p.block ∨ M p.block) (v : Value) : Kp n M a (b.setCell p v) := by
  refine h.trans ⟨rfl, rfl, rfl, by simp [World.setCell], fun i hi hM => Below.heap_setCell _ _ _ i fun e => ?_⟩
  rcases hp with hp | hp
  · omega
  · exact hM (e ▸ hp)
theorem Kp.grown {n : Nat} {M : Nat → Prop} {a b c : World} {row : Option Nat} (h : Kp n M a b) (hg : b.grownBy c row) (hn : n ≤ b.heap.size) (hr : ∀ k, row = some k → n ≤ k ∨ M k) : Kp n M a c :=
  h.trans ⟨hg.os, hg.tape, hg.output, hg.size, fun i hi hM => hg.block i (by omega) fun e => by
    rcases hr i e.symm with hp | hp
    · omega
    · exact hM hp⟩
theorem Kp.heap {n : Nat} {M : Nat → Prop} {a b : World} (h : Kp n M a b) {k : Nat} {o : Obj} (hk : a.heap[k]? = some o) (hn : k < n) (hM : ¬ M k) : b.heap[k]? = some o := (h.block k hn hM).trans hk
theorem own_mk {B sz n cap : Nat} {e : TypeId} {w : World} {A : Array Value} {b : Nat} (h : w.heap[b]? = some (.cells A e)) (hb : B ≤ b) (hn : n ≤ cap) (hc : cap ≤ maxLen) (hs : A.size = cap * sz) : w.ownsRow B e sz (.slice (some ⟨b, 0, none⟩) n cap) n (A.toList.take (n * sz)) :=
  ⟨by rw [List.length_take, Array.length_toList, hs, Nat.min_eq_left (Nat.mul_le_mul_right _ hn)], .inr ⟨b, cap, A, rfl, hb, h, hn, hc, hs, rfl⟩⟩
theorem Kp.cell {n : Nat} {M : Nat → Prop} {a b : World} (h : Kp n M a b) {k o : Nat} {u : Value} (hc : a.cell? ⟨k, o, none⟩ = some u) (hn : k < n) (hM : ¬ M k) : b.cell? ⟨k, o, none⟩ = some u :=
  (World.cell?_of_block (a := ⟨k, o, none⟩) (h.block k hn hM)).trans hc
theorem pt_int {p n : Nat} (h : p < n) : (0 : Int) ≤ (p : Int) ∧ (p : Int) < (n : Int) := ⟨Int.natCast_nonneg p, by omega⟩
namespace Sg
def ndCells (d : Nd) : List Value := [.int .i64 d.c.kind, .int .i64 d.c.level, .int .i64 d.c.a, .int .i64 d.c.b, .int .i64 (d.up : Int), .int .i64 d.c.met]
def ndRow (G : List Nd) : List Value := G.flatMap ndCells
theorem ndRow_len : ∀ G : List Nd, (ndRow G).length = G.length * 6
  | [] => rfl
  | e :: r => by
    have := ndRow_len r
    simp only [ndRow, List.flatMap_cons, List.length_append, List.length_cons, ndCells, List.length_nil] at this ⊢
    omega
theorem ndRow_cons (d : Nd) (G : List Nd) : ndRow (d :: G) = ndCells d ++ ndRow G := by simp [ndRow]
theorem ndRow_snoc (G : List Nd) (d : Nd) : ndRow (G ++ [d]) = ndRow G ++ ndCells d := by simp [ndRow]
theorem ndRow_at : ∀ {G : List Nd} {p : Nat} {d : Nd}, G[p]? = some d → ∀ j, j < 6 → (ndRow G)[p * 6 + j]? = (ndCells d)[j]?
  | [], p, d, h, _, _ => by simp at h
  | t :: r, 0, d, h, j, hj => by
    simp only [List.getElem?_cons_zero, Option.some.injEq] at h
    subst h
    rw [ndRow_cons, Nat.zero_mul, Nat.zero_add, List.getElem?_append_left (by simp [ndCells]; omega)]
  | t :: r, p + 1, d, h, j, hj => by
    rw [ndRow_cons, List.getElem?_append_right (by simp [ndCells]; omega)]
    have ih := ndRow_at (G := r) (p := p) (by simpa using h) j hj
    rw [show (p + 1) * 6 + j - (ndCells t).length = p * 6 + j from by simp [ndCells]; omega, ih]
/-- A field of a node is written. -/
theorem ndRow_set : ∀ {G : List Nd} {p : Nat} {d e : Nd} {j : Nat} {v : Value}, G[p]? = some d → j < 6 → (ndCells d).set j v = ndCells e → (ndRow G).set (p * 6 + j) v = ndRow (G.set p e)
  | [], p, d, e, j, v, h, _, _ => by simp at h
  | t :: r, 0, d, e, j, v, h, hj, hv => by
    simp only [List.getElem?_cons_zero, Option.some.injEq] at h
    subst h
    rw [List.set_cons_zero, ndRow_cons, ndRow_cons, ← hv, Nat.zero_mul, Nat.zero_add, List.set_append_left _ _ (by simp [ndCells]; omega)]
  | t :: r, p + 1, d, e, j, v, h, hj, hv => by
    rw [List.set_cons_succ, ndRow_cons, ndRow_cons, ← ndRow_set (G := r) (p := p) (by simpa using h) hj hv, List.set_append_right _ _ (by simp [ndCells]; omega)]
    congr 2
    simp [ndCells]; omega
theorem nd_one (d : Nd) : ∀ u ∈ ndCells d, u.oneCell' = true := by
  intro u hu
  simp only [ndCells, List.mem_cons, List.not_mem_nil, or_false] at hu
  rcases hu with rfl | rfl | rfl | rfl | rfl | rfl <;> rfl
end Sg
open Sg (Of Rt)
abbrev SNd := Sg.Nd
theorem elem_nd : Try.prog.underlying 83 = some (.slice (Try.prog.elem 83)) := by kernel_rfl
theorem info_nd : (Try.prog.info? 88).map (fun i => (i.zero, i.size, i.bytes)) = some (some (.agg #[.int .i64 0, .int .i64 0, .int .i64 0, .int .i64 0, .int .i64 0, .int .i64 0]), 6, 48) := by kernel_rfl
/-- THE STORE: its box s, its row of nodes in block g; L: its limit, C: its count, K: its walks; H: its nodes, each with its root. -/
structure SV (B s g cap : Nat) (L C K : Int) (w : World) (H : List SNd) : Prop where
  row : ∃ G, Of G H ∧ w.ownsRow B 88 6 (.slice (some ⟨g, 0, none⟩) G.length cap) G.length (Sg.ndRow G)
  box : w.heap[s]? = some (.cells #[.int .i64 L, .int .i64 C, .slice (some ⟨g, 0, none⟩) H.length cap, .int .i64 K] 85)
  lo : B ≤ s
theorem SV.far {B s g cap : Nat} {L C K : Int} {w : World} {H : List SNd} (h : SV B s g cap L C K w H) : B ≤ g ∧ g < w.heap.size ∧ s < w.heap.size ∧ s ≠ g := by
  obtain ⟨G, hO, hown⟩ := h.row
  rcases hown.2 with ⟨h1, _⟩ | ⟨g', cap', cur, h1, h2, h3, h4⟩
  · cases h1
  · injection h1 with h1 _ _
    injection h1 with h1
    injection h1 with h1
    subst h1
    refine ⟨h2, (Array.getElem?_eq_some_iff.1 h3).1, (Array.getElem?_eq_some_iff.1 h.box).1, fun e => ?_⟩
    rw [← e, h.box] at h3
    injection h3 with h3
    injection h3 with _ h5
    exact absurd h5 (by decide)
/-- What stays of the store where its two blocks stay. -/
theorem SV.same {B s g cap : Nat} {L C K : Int} {w w' : World} {H : List SNd} (h : SV B s g cap L C K w H) (hs : w'.heap[s]? = w.heap[s]?) (hg : w'.heap[g]? = w.heap[g]?) : SV B s g cap L C K w' H := by
  obtain ⟨G, h1, h2⟩ := h.row
  exact ⟨⟨G, h1, own_same h2 (fun k e => by injection e with e; dsimp only at e; rw [← e]; exact hg)⟩, hs.trans h.box, h.lo⟩
theorem SV.below {B s g cap : Nat} {L C K : Int} {w w' : World} {H : List SNd} (h : SV B s g cap L C K w H) (hb : Below w.heap.size w w') : SV B s g cap L C K w' H :=
  h.same (hb.block s h.far.2.2.1) (hb.block g h.far.2.1)
theorem SV.sbox {B s g cap : Nat} {L C K : Int} {w : World} {H : List SNd} (h : SV B s g cap L C K w H) : w.cell? ⟨s, 0, none⟩ = some (.int .i64 L) ∧ w.cell? ⟨s, 1, none⟩ = some (.int .i64 C) ∧ w.cell? ⟨s, 2, none⟩ = some (.slice (some ⟨g, 0, none⟩) H.length cap) ∧ w.cell? ⟨s, 3, none⟩ = some (.int .i64 K) :=
  ⟨cell_box h.box rfl rfl, cell_box h.box rfl rfl, cell_box h.box rfl rfl, cell_box h.box rfl rfl⟩
/-- The cells of a node. -/
theorem nd_cells {B g cap n : Nat} {w : World} {G : List SNd} (h : w.ownsRow B 88 6 (.slice (some ⟨g, 0, none⟩) n cap) n (Sg.ndRow G)) {p : Nat} {d : SNd} (hd : G[p]? = some d) :
    w.cell? ⟨g, p * 6, none⟩ = some (.int .i64 d.c.kind) ∧ w.cell? ⟨g, p * 6 + 1, none⟩ = some (.int .i64 d.c.level) ∧ w.cell? ⟨g, p * 6 + 2, none⟩ = some (.int .i64 d.c.a) ∧ w.cell? ⟨g, p * 6 + 2 + 1, none⟩ = some (.int .i64 d.c.b) ∧ w.cell? ⟨g, p * 6 + 4, none⟩ = some (.int .i64 (d.up : Int)) ∧ w.cell? ⟨g, p * 6 + 5, none⟩ = some (.int .i64 d.c.met) := by
  have k : ∀ j, j < 6 → ∀ u, (Sg.ndCells d)[j]? = some u → w.cell? ⟨g, p * 6 + j, none⟩ = some u := fun j hj u hu => by
    have := h.cells (g := g) rfl (p * 6 + j) u (by rw [Sg.ndRow_at hd j hj]; exact hu)
    rwa [add_flat, Nat.zero_add] at this
  exact ⟨k 0 (by omega) _ rfl, k 1 (by omega) _ rfl, k 2 (by omega) _ rfl, k 3 (by omega) _ rfl, k 4 (by omega) _ rfl, k 5 (by omega) _ rfl⟩
/-- What a node says, whatever its way. -/
theorem SV.node {B s g cap : Nat} {L C K : Int} {w : World} {H : List SNd} (h : SV B s g cap L C K w H) {p : Nat} {d : SNd} (hd : H[p]? = some d) :
    w.cell? ⟨g, p * 6, none⟩ = some (.int .i64 d.c.kind) ∧ w.cell? ⟨g, p * 6 + 1, none⟩ = some (.int .i64 d.c.level) ∧ w.cell? ⟨g, p * 6 + 2, none⟩ = some (.int .i64 d.c.a) ∧ w.cell? ⟨g, p * 6 + 2 + 1, none⟩ = some (.int .i64 d.c.b) ∧ w.cell? ⟨g, p * 6 + 5, none⟩ = some (.int .i64 d.c.met) := by
  obtain ⟨G, hO, hown⟩ := h.row
  obtain ⟨e, he, hc, _⟩ := hO.get hd
  obtain ⟨c0, c1, c2, c3, c4, c5⟩ := nd_cells hown he
  rw [hc] at c0 c1 c2 c3 c5
  exact ⟨c0, c1, c2, c3, c5⟩
theorem SV.thaw {B s g cap : Nat} {L C K : Int} {w : World} {H : List SNd} (h : SV B s g cap L C K w H) (o : Nat) : w.frozen? ⟨g, o, none⟩ = false := by
  obtain ⟨G, hO, hown⟩ := h.row
  exact hown.frozenAt _
/-- What a node says is written: one field. -/
theorem SV.say {B s g cap : Nat} {L C K : Int} {w : World} {H : List SNd} (h : SV B s g cap L C K w H) {p j : Nat} {d : SNd} (hd : H[p]? = some d) (c : Sg.Cr) (v : Value) (hj : j < 6) (hv : ∀ u, (Sg.ndCells ⟨d.c, u⟩).set j v = Sg.ndCells ⟨c, u⟩) :
    SV B s g cap L C K (w.setCell ⟨g, p * 6 + j, none⟩ v) (H.set p { d with c := c }) := by
  obtain ⟨G, hO, hown⟩ := h.row
  obtain ⟨e, he, hc, _⟩ := hO.get hd
  refine ⟨⟨G.set p { e with c := c }, hO.say he hd c, ?_⟩, ?_, h.lo⟩
  · rw [List.length_set, ← Sg.ndRow_set he hj (by have := hv e.up; rw [← hc] at this; exact this)]
    exact (hown.stored (p * 6 + j) _).1
  · rw [List.length_set, Below.heap_setCell _ _ _ s h.far.2.2.2]
    exact h.box
/-- One of the box's numbers is written. -/
theorem SV.num {B s g cap : Nat} {L C K : Int} {w : World} {H : List SNd} (h : SV B s g cap L C K w H) (j : Nat) (x L' C' K' : Int) (hj : (j = 1 ∧ L' = L ∧ C' = x ∧ K' = K) ∨ (j = 3 ∧ L' = L ∧ C' = C ∧ K' = x)) : SV B s g cap L' C' K' (w.setCell ⟨s, j, none⟩ (.int .i64 x)) H := by
  obtain ⟨G, h1, h2⟩ := h.row
  have hne := h.far.2.2.2
  refine ⟨⟨G, h1, own_same h2 (fun k e => by injection e with e; dsimp only at e; rw [← e]; exact Below.heap_setCell _ _ _ g (Ne.symm hne))⟩, ?_, h.lo⟩
  have hb := box_set (i := j) (v := .int .i64 x) h.box
  rcases hj with ⟨rfl, rfl, rfl, rfl⟩ | ⟨rfl, rfl, rfl, rfl⟩
  · exact hb
  · exact hb
end Go.Proofs.Yteolbbgnkbcfmaa
namespace Go.Proofs.Yteolbbgnkbcfmaa
open Go Go.RowKit
open Tp (T)
open Sg (Of Rt)
theorem wrapS {k : Nat} (h : k < maxLen) : wrap64 ((k : Int) + 1) = ((k + 1 : Nat) : Int) := by unfold maxLen at h; unfold wrap64; omega
theorem leaf12_any (k : Int) (w : World) : Calls Try.prog 52 #[.int .i64 k] w fun e w' => e = .returned (.int .i64 (wrap64 (k - 1))) ∧ w' = w := by
  go_enter Try.func52, Try.ntmps52
  go_wp2_with fail
  go_ret
  exact ⟨rfl, rfl⟩
def ar (k : Int) : Nat := if k = 7 ∨ k = 9 then 2 else if k = 8 then 1 else 0
theorem arity12_any (k : Int) (w : World) : Calls Try.prog 84 #[.int .i64 k] w fun e w' => e = .returned (.int .i64 (ar k : Int)) ∧ w' = w := by
  go_enter Try.func84, Try.ntmps84
  by_cases h7 : k = 7
  · subst h7
    go_wp2_with fail
    go_ret
    exact ⟨rfl, rfl⟩
  · by_cases h9 : k = 9
    · subst h9
      go_wp2_with fail
      go_ret
      exact ⟨rfl, rfl⟩
    · by_cases h8 : k = 8
      · subst h8
        go_wp2_with fail
        go_ret
        exact ⟨rfl, rfl⟩
      · have e7 : (k == 7) = false := by simp [h7]
        have e8 : (k == 8) = false := by simp [h8]
        have e9 : (k == 9) = false := by simp [h9]
        go_wp2_with fail
        go_ret
        exact ⟨by simp [ar, h7, h8, h9], rfl⟩
section
variable {B s g cap : Nat} {L C K : Int} {w : World} {H : List SNd}
theorem count12_any (h : SV B s g cap L C K w H) : Calls Try.prog 26 #[.pointer (some ⟨s, 0, none⟩)] w fun e w' => e = .returned (.int .i64 C) ∧ w' = w := by
  obtain ⟨c0, c1, c2, c3⟩ := h.sbox
  clear h
  go_enter Try.func26, Try.ntmps26
  go_wp2_with fail
  go_ret
  exact ⟨rfl, rfl⟩
theorem room12_any (h : SV B s g cap L C K w H) : Calls Try.prog 79 #[.pointer (some ⟨s, 0, none⟩)] w fun e w' => e = .returned (.int .i64 (wrap64 (L - C))) ∧ Below w.heap.size w w' := by
  obtain ⟨c0, c1, c2, c3⟩ := h.sbox
  clear h
  have hm : Try.prog.follows .mixedOrders = true := by kernel_rfl
  go_enter Try.func79, Try.ntmps79
  go_upto_region 1 with fail
  go_quiet (fail)
  go_wp2_with fail
  go_ret
  exact ⟨rfl, ⟨rfl, rfl, rfl, Nat.le_refl _, fun _ _ => rfl⟩⟩
/-- A row of numbers that lies somewhere. -/
def IntsAt (w : World) (l : List Int) (a : Option Addr) : Prop := ∀ i (h : i < l.length), ∃ b o, a = some ⟨b, o, none⟩ ∧ w.cell? ⟨b, o + i, none⟩ = some (.int .i64 l[i])
/-- Is it a node? -/
def okN (m : Nat) (x : Int) : Bool := decide (0 ≤ x) && decide (x < (m : Int))
set_option maxRecDepth 100000 in
theorem have12_any (h : SV B s g cap L C K w H) (l : List Int) (a : Option Addr) (c : Nat) (hl : l.length ≤ maxLen) (ha : IntsAt w l a) :
    Calls Try.prog 73 #[.pointer (some ⟨s, 0, none⟩), .slice a l.length c] w fun e w' => e = .returned (.bool (l.all (okN H.length))) ∧ w' = w := by
  obtain ⟨c0, c1, c2, c3⟩ := h.sbox
  obtain ⟨n, hn⟩ : ∃ n, l.length = n := ⟨_, rfl⟩
  obtain ⟨m, hm⟩ : ∃ n, H.length = n := ⟨_, rfl⟩
  rw [hm] at c2 ⊢
  rw [hn]
  have HN := Lib.hid hn; have HA := Lib.hid ha; have HL := Lib.hid hl
  clear h hn hm ha hl
  go_enter Try.func73, Try.ntmps73
  go_wp2_with fail
  go_loopg [9] n (fun gk v wr => ∃ k : Nat, k ≤ n ∧ v = .int .i64 (k : Int) ∧ wr = w ∧ (l.take k).all (okN m) = true ∧ gk = n - k)
  case atStart => exact ⟨0, Nat.zero_le _, rfl, rfl, rfl, rfl⟩
  case round =>
    obtain ⟨k, hk, rfl, rfl, hal, rfl⟩ := hrel
    have HAL := Lib.hid hal; clear hal
    by_cases hlt : k < n
    · have hkl : k < l.length := by rw [HN.out]; exact hlt
      obtain ⟨b, o, rfl, hc⟩ := HA.out k hkl
      obtain ⟨x, hx⟩ : ∃ x, l[k] = x := ⟨_, rfl⟩
      rw [hx] at hc
      obtain ⟨i1, i2⟩ := pt_int hlt
      have HX := Lib.hid hx; clear hx
      by_cases h0 : x < 0
      · have HF := Lib.hid (show l.all (okN m) = false from by
          rw [List.all_eq_false]; exact ⟨x, by rw [← HX.out]; exact List.getElem_mem hkl, by unfold okN; simp; omega⟩)
        go_wp2_with fail
        go_ret
        exact ⟨by rw [HF.out]; rfl, rfl⟩
      · by_cases h1 : (m : Int) ≤ x
        · have HF := Lib.hid (show l.all (okN m) = false from by
            rw [List.all_eq_false]; exact ⟨x, by rw [← HX.out]; exact List.getElem_mem hkl, by unfold okN; simp; omega⟩)
          go_wp2_with fail
          go_ret
          exact ⟨by rw [HF.out]; rfl, rfl⟩
        · have HT := Lib.hid (show (l.take (k + 1)).all (okN m) = true from by
            rw [List.take_succ_eq_append_getElem hkl, List.all_append, HAL.out, HX.out]; unfold okN; simp; omega)
          go_wp2_with fail
          go_roundg (n - (k + 1))
          case measure => omega
          case rel => exact ⟨k + 1, hlt, by rw [wrapS (k := k) (by have := HL.out; have := HN.out; omega)], rfl, HT.out, rfl⟩
    · obtain rfl : k = n := by omega
      go_wp2_with fail
      go_ret
      refine ⟨?_, rfl⟩
      have h := HAL.out
      rw [← HN.out, List.take_length] at h
      rw [h]; rfl
end
end Go.Proofs.Yteolbbgnkbcfmaa
namespace Go.Proofs.Yteolbbgnkbcfmaa
open Go Go.RowKit
open Tp (T)
open Sg (Of Rt)
/-- A node's way made shorter, in memory. -/
theorem nd_set {B g cap : Nat} {w : World} {G : List SNd} (h : w.ownsRow B 88 6 (.slice (some ⟨g, 0, none⟩) G.length cap) G.length (Sg.ndRow G)) {p : Nat} {d : SNd} (hd : G[p]? = some d) (u : Nat) :
    (w.setCell ⟨g, p * 6 + 4, none⟩ (.int .i64 (u : Int))).ownsRow B 88 6 (.slice (some ⟨g, 0, none⟩) (G.set p { d with up := u }).length cap) (G.set p { d with up := u }).length (Sg.ndRow (G.set p { d with up := u })) := by
  rw [List.length_set, ← Sg.ndRow_set hd (by omega) (show (Sg.ndCells d).set 4 (.int .i64 (u : Int)) = Sg.ndCells { d with up := u } from rfl)]
  exact (h.stored (p * 6 + 4) _).1
/-- A number that a call builds a row of. -/
theorem ints_one (w : World) (x : Int) : IntsAt (w.alloc (.cells #[.int .i64 x] 3)) [x] (some ⟨w.heap.size, 0, none⟩) := fun i hi => by
  obtain rfl : i = 0 := by simp at hi; omega
  exact ⟨_, _, rfl, cell_box (World.alloc_heap_new w _) rfl rfl⟩
theorem okN_nat {m p : Nat} (h : p < m) : [(p : Int)].all (okN m) = true := by unfold okN; simp; omega
section
variable {B s g cap : Nat} {L C K : Int} {w : World} {H : List SNd}
set_option maxRecDepth 100000 in
set_option maxHeartbeats 4000000 in
theorem root12_any (h : SV B s g cap L C K w H) {p : Nat} {d : SNd} (hd : H[p]? = some d) :
    Calls Try.prog 29 #[.pointer (some ⟨s, 0, none⟩), .int .i64 (p : Int)] w fun e w' => e = .returned (.int .i64 (d.up : Int)) ∧ SV B s g cap L C K w' H ∧ Kp w.heap.size (fun k => k = g) w w' := by
  obtain ⟨W1, hW1⟩ : ∃ W, w.alloc (.cells #[.int .i64 (p : Int)] 3) = W := ⟨_, rfl⟩
  have hb1 : Below w.heap.size w W1 := by rw [← hW1]; exact (Below.refl _ _).alloc (Nat.le_refl _) _
  have hk1 : Kp w.heap.size (fun k => k = g) w W1 := .of_below hb1
  have hpl : p < H.length := (List.getElem?_eq_some_iff.1 hd).1
  have h1 := h.below hb1
  have hgs : g < W1.heap.size := h1.far.2.1
  have hhv := have12_any h1 [(p : Int)] (some ⟨w.heap.size, 0, none⟩) 1 (by unfold maxLen; simp) (by rw [← hW1]; exact ints_one w p)
  rw [okN_nat hpl] at hhv
  obtain ⟨G, hO, hown⟩ := h1.row
  obtain ⟨g0, hg, _, n, hr⟩ := hO.get hd
  have hne := h1.far.2.2.2
  have hbox := h1.box
  obtain ⟨N, hL⟩ : ∃ N, H.length = N := ⟨_, rfl⟩
  obtain ⟨r, hr'⟩ : ∃ r, d.up = r := ⟨_, rfl⟩
  rw [hr'] at hr ⊢
  rw [hL] at hbox
  have HO := Lib.hid hO; have HOWN := Lib.hid hown; have HR := Lib.hid hr; have HL := Lib.hid hL; have HNE := Lib.hid hne; have HHV := Lib.hid hhv; have HW1 := Lib.hid hW1; have HBOX := Lib.hid hbox; have HK1 := Lib.hid hk1; have HLO := Lib.hid h.lo; have HGS := Lib.hid hgs
  clear hO hown hr h hL hd hg hr' hne hb1 h1 hhv hW1 hpl hbox hk1 hgs
  go_enter Try.func29, Try.ntmps29
  go_upto_region 1 with fail
  go_wp2_with fail
  rw [HW1.out]
  refine HHV.out.mono ?_
  rintro e w2 ⟨rfl, rfl⟩
  go_upto_region 3 with fail
  go_loopg [1] n (fun gk v wr => ∃ (G : List SNd) (p : Nat), v = .int .i64 (p : Int) ∧ Of G H ∧ Rt G gk p r ∧ wr.ownsRow B 88 6 (.slice (some ⟨g, 0, none⟩) G.length cap) G.length (Sg.ndRow G) ∧ Turns (fun k => k = g) w2 wr)
  case atStart => exact ⟨G, p, rfl, HO.out, HR.out, HOWN.out, Turns.refl _ _⟩
  case round =>
    obtain ⟨G, p, rfl, hO, hr, hown, ht⟩ := hrel
    have cb : wr.cell? ⟨s, 2, none⟩ = some (.slice (some ⟨g, 0, none⟩) N cap) := cell_box (ht.heap HBOX.out HNE.out) rfl rfl
    have hGL : G.length = N := hO.len.trans HL.out
    obtain ⟨e, he⟩ : ∃ e, G[p]? = some e := by
      cases gk with
      | zero => obtain ⟨_, e, h1, _⟩ := hr; exact ⟨e, h1⟩
      | succ k => obtain ⟨e, h1, _⟩ := hr; exact ⟨e, h1⟩
    have hpl : p < N := by rw [← hGL]; exact (List.getElem?_eq_some_iff.1 he).1
    obtain ⟨q0, q1⟩ := pt_int hpl
    obtain ⟨_, _, _, _, cp, _⟩ := nd_cells hown he
    obtain ⟨q, hq⟩ : ∃ q, e.up = q := ⟨_, rfl⟩
    rw [hq] at cp
    have HO2 := Lib.hid hO; have HR2 := Lib.hid hr; have HOWN2 := Lib.hid hown; have HT2 := Lib.hid ht; have HE := Lib.hid he; have HQ := Lib.hid hq; have HGL2 := Lib.hid hGL
    clear hO hr hown ht he hGL hq HO HR HOWN
    by_cases hqp : q = p
    · subst hqp
      have hrq : r = q := by
        have h1 := HR2.out
        cases gk with
        | zero => exact h1.1
        | succ k => obtain ⟨e', h2, h3, _⟩ := h1; rw [HE.out] at h2; injection h2 with h2; subst h2; exact absurd HQ.out h3
      subst hrq
      go_wp2_with fail
      go_ret
      refine ⟨rfl, ⟨⟨G, HO2.out, HOWN2.out⟩, by rw [HL.out]; exact HT2.out.heap HBOX.out HNE.out, HLO.out⟩, HK1.out.trans (Kp.of_turns HT2.out ?_ (fun _ h => h))⟩
      exact HK1.out.size
    · obtain ⟨e2, he2, hnx⟩ : ∃ e2, G[q]? = some e2 ∧ ∃ m, m < gk ∧ Rt (G.set p { e with up := e2.up }) m e2.up r := by
        have h1 := HR2.out
        cases gk with
        | zero => obtain ⟨_, e', h2, h3⟩ := h1; rw [HE.out] at h2; injection h2 with h2; subst h2; exact absurd (HQ.out.symm.trans h3) hqp
        | succ k =>
          obtain ⟨e', h2, h3, h4⟩ := id h1
          rw [HE.out] at h2; injection h2 with h2; subst h2
          have h5 : ∃ e2, G[e.up]? = some e2 := by
            cases k with
            | zero => obtain ⟨_, x, hx, _⟩ := h4; exact ⟨x, hx⟩
            | succ j => obtain ⟨x, hx, _⟩ := h4; exact ⟨x, hx⟩
          obtain ⟨e2, h6⟩ := h5
          rw [HQ.out] at h6
          exact ⟨e2, h6, Rt.next HE.out HQ.out hqp h6 h1⟩
      have hql : q < N := by rw [← HGL2.out]; exact (List.getElem?_eq_some_iff.1 he2).1
      obtain ⟨t0, t1⟩ := pt_int hql
      obtain ⟨_, _, _, _, cq, _⟩ := nd_cells HOWN2.out he2
      obtain ⟨u, hu⟩ : ∃ u, e2.up = u := ⟨_, rfl⟩
      rw [hu] at cq hnx
      have hne : ((q : Int) == (p : Int)) = false := by simp; omega
      have hne' : ((q : Int) != (p : Int)) = true := by simp; omega
      have fp : wr.frozen? ⟨g, p * 6 + 4, none⟩ = false := HOWN2.out.frozenAt _
      have HE2 := Lib.hid he2; have HU := Lib.hid hu; have HNX := Lib.hid hnx; have HQP := Lib.hid hqp
      clear he2 hu hnx hqp
      go_upto_region 4 with fail
      have hO3 := HO2.out.halve HE.out HQ.out HQP.out HE2.out
      have hown3 := nd_set HOWN2.out HE.out e2.up
      rw [HU.out] at hO3 hown3
      have hg3 := (HOWN2.out.stored (p * 6 + 4) (.int .i64 (u : Int))).2
      obtain ⟨V, hV⟩ : ∃ V, wr.setCell ⟨g, p * 6 + 4, none⟩ (.int .i64 (u : Int)) = V := ⟨_, rfl⟩
      rw [hV] at hown3 hg3
      have ht3 : Turns (fun k => k = g) w2 V := HT2.out.trans (Turns.of_grown hg3 (by rintro k ⟨⟩; rfl))
      have cb3 : V.cell? ⟨s, 2, none⟩ = some (.slice (some ⟨g, 0, none⟩) N cap) := cell_box (ht3.heap HBOX.out HNE.out) rfl rfl
      have cp3 : V.cell? ⟨g, p * 6 + 4, none⟩ = some (.int .i64 (u : Int)) := (nd_cells hown3 (Sg.set_same HE.out)).2.2.2.2.1
      have HO3 := Lib.hid hO3; have HOWN3 := Lib.hid hown3; have HT3 := Lib.hid ht3; have HV := Lib.hid hV; have CB3 := Lib.hid cb3; have CP3 := Lib.hid cp3
      clear hO3 hown3 hg3 hV ht3 cb3 cp3
      go_region_law (fail)
      all_goals
        rw [HV.out]
        have cb3 := CB3.out; have cp3 := CP3.out
        clear cb cp cq fp t0 t1 hne hne'
        obtain ⟨m', hm', hr'⟩ := HNX.out
        go_wp2_with fail
        go_roundg m'
        case measure => exact hm'
        case rel => exact ⟨_, u, rfl, HO3.out, hr', HOWN3.out, HT3.out.trans (Turns.drew _ _)⟩
end
end Go.Proofs.Yteolbbgnkbcfmaa
namespace Go.Proofs.Yteolbbgnkbcfmaa
open Go Go.RowKit
open Tp (T)
open Sg (Of Rt)
/-- Worlds in which the store says the same. -/
def RS (B s g cap : Nat) (L C K : Int) (H : List SNd) (w w' : World) : Prop := (SV B s g cap L C K w H → SV B s g cap L C K w' H) ∧ Kp w.heap.size (fun k => k = g) w w'
theorem RS.refl {B s g cap : Nat} {L C K : Int} {H : List SNd} (w : World) : RS B s g cap L C K H w w := ⟨id, Kp.refl _ _ _⟩
theorem RS.trans {B s g cap : Nat} {L C K : Int} {H : List SNd} {a b c : World} (h : RS B s g cap L C K H a b) (k : RS B s g cap L C K H b c) : RS B s g cap L C K H a c := ⟨fun x => k.1 (h.1 x), h.2.trans (k.2.mono h.2.size (fun _ _ h => h))⟩
theorem Kp.next {M : Nat → Prop} {a b c : World} (h : Kp a.heap.size M a b) (k : Kp b.heap.size M b c) : Kp a.heap.size M a c := h.trans (k.mono h.size (fun _ _ h => h))
theorem SV.drew {B s g cap : Nat} {L C K : Int} {w : World} {H : List SNd} (h : SV B s g cap L C K w H) : SV B s g cap L C K w.drew H := h.same rfl rfl
theorem kids_slice (b o k : Nat) (hk : k ≤ 2) (w : World) : (Instr.sliceAt 86 (.pointer (some ⟨b, o, none⟩)) none (some (.int .i64 (k : Int))) none).run Try.prog w = .ok (.slice (some ⟨b, o, none⟩) k 2) w := by
  have hal : Try.prog.arrayLen 86 = 2 := by kernel_rfl
  rw [run_sliceAt_array_h w 86 ⟨b, o, none⟩ (by kernel_rfl) .i64 (k : Int) (by omega) (by rw [hal]; omega), hal]
  have hsz : (sizeOf (Try.prog.elem 86)).run Try.prog w = .ok 1 w := by kernel_rfl
  rw [hsz]
  simp [Result.andThen, slicedAt, add_flat]
theorem ar_le (k : Int) : ar k ≤ 2 := by unfold ar; split <;> (try split) <;> omega
section
variable {B s g cap : Nat} {L C K : Int} {w : World} {H : List SNd}
set_option maxRecDepth 100000 in
theorem root12_out (h : SV B s g cap L C K w H) {x : Int} (hx : okN H.length x = false) :
    Calls Try.prog 29 #[.pointer (some ⟨s, 0, none⟩), .int .i64 x] w fun e w' => e = .returned (.int .i64 (-1)) ∧ Below w.heap.size w w' := by
  have hx' : [x].all (okN H.length) = false := by simp [hx]
  obtain ⟨W1, hW1⟩ : ∃ W, w.alloc (.cells #[.int .i64 x] 3) = W := ⟨_, rfl⟩
  have hb1 : Below w.heap.size w W1 := by rw [← hW1]; exact (Below.refl _ _).alloc (Nat.le_refl _) _
  have h1 := h.below hb1
  have hhv := have12_any h1 [x] (some ⟨w.heap.size, 0, none⟩) 1 (by unfold maxLen; simp) (by rw [← hW1]; exact ints_one w x)
  rw [hx'] at hhv
  have HHV := Lib.hid hhv; have HW1 := Lib.hid hW1; have HB1 := Lib.hid hb1; have HSV := Lib.hid h1
  clear hhv hW1 hb1 h1 h
  go_enter Try.func29, Try.ntmps29
  go_upto_region 1 with fail
  go_wp2_with fail
  rw [HW1.out]
  refine HHV.out.mono ?_
  rintro e w2 ⟨rfl, rfl⟩
  go_wp2_with fail
  go_ret
  exact ⟨rfl, HB1.out⟩
set_option maxRecDepth 100000 in
theorem kind12_out (h : SV B s g cap L C K w H) {x : Int} (hx : okN H.length x = false) :
    Calls Try.prog 65 #[.pointer (some ⟨s, 0, none⟩), .int .i64 x] w fun e w' => e = .returned (.int .i64 (0)) ∧ Below w.heap.size w w' := by
  have hx' : [x].all (okN H.length) = false := by simp [hx]
  obtain ⟨W1, hW1⟩ : ∃ W, w.alloc (.cells #[.int .i64 x] 3) = W := ⟨_, rfl⟩
  have hb1 : Below w.heap.size w W1 := by rw [← hW1]; exact (Below.refl _ _).alloc (Nat.le_refl _) _
  have h1 := h.below hb1
  have hhv := have12_any h1 [x] (some ⟨w.heap.size, 0, none⟩) 1 (by unfold maxLen; simp) (by rw [← hW1]; exact ints_one w x)
  rw [hx'] at hhv
  have HHV := Lib.hid hhv; have HW1 := Lib.hid hW1; have HB1 := Lib.hid hb1; have HSV := Lib.hid h1
  clear hhv hW1 hb1 h1 h
  go_enter Try.func65, Try.ntmps65
  go_upto_region 1 with fail
  go_wp2_with fail
  rw [HW1.out]
  refine HHV.out.mono ?_
  rintro e w2 ⟨rfl, rfl⟩
  go_wp2_with fail
  go_ret
  exact ⟨rfl, HB1.out⟩
set_option maxRecDepth 100000 in
set_option maxHeartbeats 2000000 in
theorem kind12_any (h : SV B s g cap L C K w H) {p : Nat} {d r : SNd} (hd : H[p]? = some d) (hr : H[d.up]? = some r) :
    Calls Try.prog 65 #[.pointer (some ⟨s, 0, none⟩), .int .i64 (p : Int)] w fun e w' => e = .returned (.int .i64 r.c.kind) ∧ SV B s g cap L C K w' H ∧ Kp w.heap.size (fun k => k = g) w w' := by
  have hpl := (List.getElem?_eq_some_iff.1 hd).1
  have hrl := (List.getElem?_eq_some_iff.1 hr).1
  have hroot := fun x (hx : SV B s g cap L C K x H) => root12_any hx hd
  obtain ⟨q, hq⟩ : ∃ q, d.up = q := ⟨_, rfl⟩
  rw [hq] at hr hrl hroot
  obtain ⟨q0, q1⟩ := pt_int hrl
  have HN := Lib.hid hr; have HRT := Lib.hid hroot
  clear hr hroot hq hrl
  obtain ⟨W1, hW1⟩ : ∃ W, w.alloc (.cells #[.int .i64 (p : Int)] 3) = W := ⟨_, rfl⟩
  have hb1 : Below w.heap.size w W1 := by rw [← hW1]; exact (Below.refl _ _).alloc (Nat.le_refl _) _
  have h1 := h.below hb1
  have hhv := have12_any h1 [(p : Int)] (some ⟨w.heap.size, 0, none⟩) 1 (by unfold maxLen; simp) (by rw [← hW1]; exact ints_one w (p : Int))
  rw [okN_nat hpl] at hhv
  have HHV := Lib.hid hhv; have HW1 := Lib.hid hW1; have HB1 := Lib.hid hb1; have HSV := Lib.hid h1
  clear hhv hW1 hb1 h1 h
  go_enter Try.func65, Try.ntmps65
  go_upto_region 1 with fail
  go_wp2_with fail
  rw [HW1.out]
  refine HHV.out.mono ?_
  rintro e w2 ⟨rfl, rfl⟩
  go_upto_region 3 with fail
  have HSV := Lib.hid HSV.out.drew
  refine wp_region_rel (R := RS B s g cap L C K H) RS.refl RS.trans [(0, false), (0, false), (0, false), (0, false), (0, false), (0, false), (0, true), (0, false), (0, false), (0, false), (0, false)] (by kernel_rfl) (by kernel_rfl) (by kernel_rfl) (fun _ _ _ d _ h => by cases d <;> exact h) ?_
  repeat
    first
    | (first | with_reducible refine rp0 (fun K hK => ?_) | with_reducible refine rp1 (fun K hK => ?_) | with_reducible refine rp2 (fun K hK => ?_) | with_reducible refine rp3 (fun K hK => ?_) | with_reducible refine rp4 (fun K hK => ?_)
       go_simp
       first
       | (with_reducible refine hK _ _ ?_; clear hK K)
       | (with_reducible apply Exists.intro
          refine ⟨fun x hx => ?_, hK _ _ ?_⟩
          first
            | (with_reducible exact rfl)
            | (have y0 := (hx.1 HSV.out).sbox.2.2.1; go_simp; done)
            | (have y0 := (hx.1 HSV.out).sbox.2.2.1; go_simp; with_reducible exact rfl)
          clear hK K))
    | (first | with_reducible refine rk0 ?_ (fun K hK => ?_) | with_reducible refine rk1 ?_ (fun K hK => ?_) | with_reducible refine rk2 ?_ (fun K hK => ?_) | with_reducible refine rk3 ?_ (fun K hK => ?_) | with_reducible refine rk4 ?_ (fun K hK => ?_)
       rfl
       go_simp
       with_reducible refine hK _ _ ?_
       clear hK K)
  first | with_reducible refine rc0 (fun K hK => ?_) | with_reducible refine rc1 (fun K hK => ?_) | with_reducible refine rc2 (fun K hK => ?_) | with_reducible refine rc3 (fun K hK => ?_) | with_reducible refine rc4 (fun K hK => ?_)
  go_simp
  refine (HRT.out _ HSV.out).mono ?_
  rintro e w4 ⟨rfl, hsv, hk⟩
  refine ⟨⟨fun _ => hsv, hk⟩, hK _ _ ?_⟩
  clear hK K
  have HSV4 := Lib.hid hsv; have HK4 := Lib.hid hk
  clear hsv hk
  clear HSV
  have HSV := HSV4
  have cb := HSV.out.sbox.2.2.1
  repeat
    first
    | (first | with_reducible refine rp0 (fun K hK => ?_) | with_reducible refine rp1 (fun K hK => ?_) | with_reducible refine rp2 (fun K hK => ?_) | with_reducible refine rp3 (fun K hK => ?_) | with_reducible refine rp4 (fun K hK => ?_)
       go_simp
       first
       | (with_reducible refine hK _ _ ?_; clear hK K)
       | (with_reducible apply Exists.intro
          refine ⟨fun x hx => ?_, hK _ _ ?_⟩
          first
            | (with_reducible exact rfl)
            | (have y0 := (hx.1 HSV.out).sbox.2.2.1; have y1 := ((hx.1 HSV.out).node HN.out).1; go_simp; done)
            | (have y0 := (hx.1 HSV.out).sbox.2.2.1; have y1 := ((hx.1 HSV.out).node HN.out).1; go_simp; with_reducible exact rfl)
          clear hK K))
    | (first | with_reducible refine rk0 ?_ (fun K hK => ?_) | with_reducible refine rk1 ?_ (fun K hK => ?_) | with_reducible refine rk2 ?_ (fun K hK => ?_) | with_reducible refine rk3 ?_ (fun K hK => ?_) | with_reducible refine rk4 ?_ (fun K hK => ?_)
       rfl
       go_simp
       with_reducible refine hK _ _ ?_
       clear hK K)
  with_reducible refine rel_nil ?_
  go_wp2_with fail
  go_ret
  exact ⟨rfl, HSV.out, (Kp.of_below HB1.out.drew).next HK4.out⟩
end
end Go.Proofs.Yteolbbgnkbcfmaa
namespace Go.Proofs.Yteolbbgnkbcfmaa
open Go Go.RowKit
open Tp (T)
open Sg (Of Rt)
/-- What is handed back by what creates a node. -/
def AddP (B s g : Nat) (L C K : Int) (H : List SNd) (c : Sg.Cr) (w : World) (w' : World) : Prop := ∃ g' cap', SV B s g' cap' L (C + 1) K w' (H ++ [⟨c, H.length⟩]) ∧ Kp w.heap.size (fun k => k = s ∨ k = g) w w' ∧ (g' = g ∨ w.heap.size ≤ g')
theorem b48n {r : Nat} (h : r ≤ 100000) : (r + 1) * 48 ≤ 140737488355328 ∧ r + 1 ≤ maxLen := by unfold maxLen; omega
theorem store_no {A : Array Value} : ∀ C, Obj.cells A 85 ≠ .cells C 88 := fun C h => by injection h with _ h; exact absurd h (by decide)
theorem row_far {B n : Nat} {w : World} {v : Value} {xs : List Value} {b : Nat} {o : Obj} (h : w.ownsRow B 88 6 v n xs) (hb : w.heap[b]? = some o) (hs : ∀ A, o ≠ .cells A 88) : v.ownBlock ≠ some b := fun e => by
  rcases h.2 with ⟨h1, _⟩ | ⟨g, cap, cur, h1, _, h3, _⟩
  · rw [h1] at e; cases e
  · rw [h1] at e; injection e with e; dsimp only at e; rw [e, hb] at h3; injection h3 with h3; exact hs cur h3
theorem sv_put {B s g g1 cap cap1 N : Nat} {L C K : Int} {w7 : World} {G H' : List SNd} {d : SNd} (hb : w7.heap[s]? = some (.cells #[.int .i64 L, .int .i64 C, .slice (some ⟨g, 0, none⟩) N cap, .int .i64 K] 85)) (hlo : B ≤ s) (hO : Of (G ++ [d]) H') (hG : G.length = N)
    (hown : w7.ownsRow B 88 6 (.slice (some ⟨g1, 0, none⟩) (N + 1) cap1) (N + 1) (Sg.ndRow G ++ Sg.ndCells d)) : SV B s g1 cap1 L C K (w7.setCell ⟨s, 2, none⟩ (.slice (some ⟨g1, 0, none⟩) (N + 1) cap1)) H' := by
  have hne : (Value.slice (some ⟨g1, 0, none⟩) (N + 1) cap1).ownBlock ≠ some s := row_far hown hb store_no
  refine ⟨⟨_, hO, ?_⟩, ?_, hlo⟩
  · rw [List.length_append, Sg.ndRow_snoc, hG]
    exact own_same hown (fun z hz => Below.heap_setCell _ _ _ _ (fun (e : z = s) => hne (e ▸ hz)))
  · have hl : H'.length = N + 1 := by rw [← hO.len, List.length_append, hG]; rfl
    rw [hl]
    exact box_set hb
section
variable {B s g cap : Nat} {L C K : Int} {w : World} {H : List SNd}
set_option maxRecDepth 100000 in
set_option maxHeartbeats 4000000 in
theorem add12_any (h : SV B s g cap L C K w H) (c : Sg.Cr) (u : Int) (hN : H.length ≤ 100000) (hC : 0 ≤ C ∧ C ≤ 100000) :
    Calls Try.prog 80 #[.pointer (some ⟨s, 0, none⟩), .agg #[.int .i64 c.kind, .int .i64 c.level, .int .i64 c.a, .int .i64 c.b, .int .i64 u, .int .i64 c.met]] w fun e w' => e = .returned (.int .i64 (H.length : Int)) ∧ AddP B s g L C K H c w w' := by
  obtain ⟨k, l, a, b, m⟩ := c
  dsimp only
  obtain ⟨W1, hW1⟩ : ∃ W, w.alloc (.cells #[.int .i64 k, .int .i64 l, .int .i64 a, .int .i64 b, .int .i64 u, .int .i64 m] 88) = W := ⟨_, rfl⟩
  have hb1 : Below w.heap.size w W1 := by rw [← hW1]; exact (Below.refl _ _).alloc (Nat.le_refl _) _
  have hx1 : W1.heap[w.heap.size]? = some (.cells #[.int .i64 k, .int .i64 l, .int .i64 a, .int .i64 b, .int .i64 u, .int .i64 m] 88) := by rw [← hW1]; exact World.alloc_heap_new w _
  have h1 := h.below hb1
  have hsl := h.far.2.2.1
  have hgl := h.far.2.1
  have hne := h.far.2.2.2
  obtain ⟨N, hNN⟩ : ∃ N, H.length = N := ⟨_, rfl⟩
  obtain ⟨c0, c1, c2, c3⟩ := h1.sbox
  rw [hNN] at c2 hN ⊢
  have x4 : W1.cell? ⟨w.heap.size, 4, none⟩ = some (.int .i64 u) := cell_box hx1 rfl rfl
  have f4 : W1.frozen? ⟨w.heap.size, 4, none⟩ = false := IsC.frozen ⟨_, _, hx1⟩
  obtain ⟨W2, hW2⟩ : ∃ W, W1.setCell ⟨w.heap.size, 4, none⟩ (.int .i64 (N : Int)) = W := ⟨_, rfl⟩
  have hx2 : W2.heap[w.heap.size]? = some (.cells #[.int .i64 k, .int .i64 l, .int .i64 a, .int .i64 b, .int .i64 (N : Int), .int .i64 m] 88) := by rw [← hW2]; exact box_set hx1
  have hb2 : Below w.heap.size w W2 := by rw [← hW2]; exact hb1.setCell (p := ⟨w.heap.size, 4, none⟩) (Nat.le_refl _) _
  have h2 := h.below hb2
  have HW1 := Lib.hid hW1; have HW2 := Lib.hid hW2; have HX2 := Lib.hid hx2; have HB2 := Lib.hid hb2; have HSV := Lib.hid h2; have HNN := Lib.hid hNN; have HN := Lib.hid hN; have HC := Lib.hid hC; have HSL := Lib.hid hsl; have HGL := Lib.hid hgl; have HNE := Lib.hid hne
  clear h hW1 hb1 hx1 h1 hW2 hx2 hb2 h2 hNN hN hC hsl hgl hne
  go_enter Try.func80, Try.ntmps80
  go_upto_region 1 with fail
  rw [HW1.out]
  go_upto_region 3 with fail
  rw [HW2.out]
  clear c0 c1 c2 c3 x4 f4
  obtain ⟨c0, c1, c2, c3⟩ := HSV.out.sbox
  rw [HNN.out] at c2
  obtain ⟨G, hO, hown⟩ := HSV.out.row
  have hGL : G.length = N := hO.len.trans HNN.out
  rw [hGL] at hown
  have x0 : W2.cell? ⟨w.heap.size, 0, none⟩ = some (.int .i64 k) := cell_box HX2.out rfl rfl
  have x1 : W2.cell? ⟨w.heap.size, 1, none⟩ = some (.int .i64 l) := cell_box HX2.out rfl rfl
  have x2 : W2.cell? ⟨w.heap.size, 2, none⟩ = some (.int .i64 a) := cell_box HX2.out rfl rfl
  have x3 : W2.cell? ⟨w.heap.size, 3, none⟩ = some (.int .i64 b) := cell_box HX2.out rfl rfl
  have x4 : W2.cell? ⟨w.heap.size, 4, none⟩ = some (.int .i64 (N : Int)) := cell_box HX2.out rfl rfl
  have x5 : W2.cell? ⟨w.heap.size, 5, none⟩ = some (.int .i64 m) := cell_box HX2.out rfl rfl
  have hbs : W2.heap[s]? = some (.cells #[.int .i64 L, .int .i64 C, .slice (some ⟨g, 0, none⟩) N cap, .int .i64 K] 85) := by have := HSV.out.box; rw [HNN.out] at this; exact this
  have hs2 : s < W2.heap.size := (Array.getElem?_eq_some_iff.1 hbs).1
  have hx9 : w.heap.size < W2.heap.size := (Array.getElem?_eq_some_iff.1 HX2.out).1
  obtain ⟨i9, hi, hz0, hz1, hz2⟩ := info_parts info_nd
  obtain ⟨b1, b2⟩ := b48n (r := N) HN.out
  have HNX := Lib.hid (show B ≤ W2.heap.size from Nat.le_trans HSV.out.lo (Nat.le_of_lt hs2))
  have B1 := Lib.hid b1; have B2 := Lib.hid b2; have HO := Lib.hid hO; have HOWN := Lib.hid hown; have HGLN := Lib.hid hGL; have HBS := Lib.hid hbs
  clear b1 b2 hO hown hGL hbs
  go_region_law (first | (refine step_append_lies _ ?_ (.tmp 17) (.tmp 19) 83 ?_ B 88 i9 (.agg #[.int .i64 0, .int .i64 0, .int .i64 0, .int .i64 0, .int .i64 0, .int .i64 0]) 6 48 Try.underlying83 hi hz0 hz1 hz2 ?_ ?_ (.slice (some ⟨g, 0, none⟩) N cap) N (Sg.ndRow G) ?_ ?_ ⟨W2.heap.size, 0, none⟩ 1 1 [.int .i64 k, .int .i64 l, .int .i64 a, .int .i64 b, .int .i64 (N : Int), .int .i64 m] ?_ ?_ ?_ ?_ ?_ ?_ ?_ ?_ (W2.heap.size + 1) ?_ ?_; (· rfl); (· rfl); (· rfl); (· decide); (· rfl); (· exact HOWN.out.alloc _); (· rfl); (· rfl); (· exact World.news_of_block (World.alloc_heap_new W2 _)); (· exact Sg.nd_one ⟨⟨k, l, a, b, m⟩, N⟩); (· decide); (· exact B2.out); (· exact B1.out); (· exact Nat.le_trans HNX.out (by simp)); (· simp); intro g1 cap1 w7 own1 gr1 ly1 lt1; (have gr1' := undrew gr1); (have hbs7 : w7.heap[s]? = some (.cells #[.int .i64 L, .int .i64 C, .slice (some ⟨g, 0, none⟩) N cap, .int .i64 K] 85) := (gr1'.block s (by rw [World.size_alloc]; omega) (fun e => row_far HOWN.out HBS.out store_no e.symm)).trans ((Below.heap_alloc _ _ _ hs2).trans HBS.out)); (have cs7 : w7.cell? ⟨s, 2, none⟩ = some (.slice (some ⟨g, 0, none⟩) N cap) := cell_box hbs7 rfl rfl); (have fs7 : w7.frozen? ⟨s, 2, none⟩ = false := IsC.frozen ⟨_, _, hbs7⟩); (have HGR7 := Lib.hid gr1'); (have HOWN7 := Lib.hid own1); (have HBS7 := Lib.hid hbs7); (have HLY := Lib.hid ly1); (have HLT := Lib.hid lt1); clear gr1 gr1' own1 hbs7 ly1 lt1))
  all_goals
    obtain ⟨W8, hW8⟩ : ∃ V, w7.setCell ⟨s, 2, none⟩ (.slice (some ⟨g1, 0, none⟩) (N + 1) cap1) = V := ⟨_, rfl⟩
    have hsv8 : SV B s g1 cap1 L C K W8 (H ++ [⟨⟨k, l, a, b, m⟩, N⟩]) := by
      rw [← hW8]
      exact sv_put (d := ⟨⟨k, l, a, b, m⟩, N⟩) HBS7.out HSV.out.lo (HO.out.snoc_own HGLN.out.symm) HGLN.out HOWN7.out
    have hkp8 : Kp w.heap.size (fun z => z = s ∨ z = g) w W8 := by
      rw [← hW8]
      exact (((Kp.of_below HB2.out).alloc HB2.out.size _).grown HGR7.out (Nat.le_trans HB2.out.size (by simp)) (fun z hz => .inr (.inr (by injection hz with hz; exact hz.symm)))).setCell (.inr (.inl rfl)) _
    have HG1 := Lib.hid (show g1 = g ∨ w.heap.size ≤ g1 by
      rcases HLY.out with h9 | h9
      · injection h9 with h9; exact .inl h9.symm
      · exact .inr (by have := HB2.out.size; omega))
    rw [hW8]
    have HSV8 := Lib.hid hsv8; have HKP8 := Lib.hid hkp8
    clear hsv8 hkp8 hW8 x0 x1 x2 x3 x4 x5 c0 c1 c2 c3 cs7 fs7 hi hz0 hz1 hz2 hs2 hx9
    obtain ⟨c0, c1, c2, c3⟩ := HSV8.out.sbox
    have f1 : W8.frozen? ⟨s, 1, none⟩ = false := IsC.frozen ⟨_, _, HSV8.out.box⟩
    have hcc : wrap64 (C + 1) = C + 1 := by have := HC.out; unfold wrap64; omega
    go_wp2_with fail
    go_ret
    refine ⟨rfl, g1, cap1, ?_, HKP8.out.setCell (.inr (.inl rfl)) _, HG1.out⟩
    rw [HNN.out]
    exact HSV8.out.num 1 (C + 1) L (C + 1) K (.inl ⟨rfl, rfl, rfl, rfl⟩)
end
end Go.Proofs.Yteolbbgnkbcfmaa
namespace Go.Proofs.Yteolbbgnkbcfmaa
open Go Go.RowKit
open Tp (T)
open Sg (Of Rt)
/-- What bounds a store: its count, its limit, its nodes. -/
structure Bds (L C : Int) (H : List SNd) : Prop where
  c0 : 0 ≤ C
  cl : C ≤ L
  l : L ≤ 65536
  n : (H.length : Int) ≤ C + 5
theorem AddP.below {B s g : Nat} {L C K : Int} {H : List SNd} {c : Sg.Cr} {w w1 w2 : World} (h : AddP B s g L C K H c w1 w2) (hb : Below w.heap.size w w1) : AddP B s g L C K H c w w2 := by
  obtain ⟨g', cap', h1, h2, h3⟩ := h
  exact ⟨g', cap', h1, (Kp.of_below hb).trans (h2.mono hb.size (fun _ _ h => h)), h3.imp id (fun h => Nat.le_trans hb.size h)⟩
section
variable {B s g cap : Nat} {L C K : Int} {w : World} {H : List SNd}
set_option maxRecDepth 100000 in
theorem level12_out (h : SV B s g cap L C K w H) {x : Int} (hx : okN H.length x = false) :
    Calls Try.prog 50 #[.pointer (some ⟨s, 0, none⟩), .int .i64 x] w fun e w' => e = .returned (.int .i64 (-1)) ∧ Below w.heap.size w w' := by
  have hk := kind12_out h hx
  clear h
  go_enter Try.func50, Try.ntmps50
  go_wp2_with fail
  refine hk.mono ?_
  rintro e w2 ⟨rfl, hb⟩
  go_wp2_with fail
  go_ret
  exact ⟨rfl, hb⟩
set_option maxRecDepth 100000 in
set_option maxHeartbeats 2000000 in
theorem level12_any (h : SV B s g cap L C K w H) {p : Nat} {d r : SNd} (hd : H[p]? = some d) (hr : H[d.up]? = some r) :
    Calls Try.prog 50 #[.pointer (some ⟨s, 0, none⟩), .int .i64 (p : Int)] w fun e w' => e = .returned (.int .i64 (if r.c.kind = 6 then r.c.level else -1)) ∧ SV B s g cap L C K w' H ∧ Kp w.heap.size (fun k => k = g) w w' := by
  have hpl := (List.getElem?_eq_some_iff.1 hd).1
  have hrl := (List.getElem?_eq_some_iff.1 hr).1
  have hk := kind12_any h hd hr
  have hroot := fun x (hx : SV B s g cap L C K x H) => root12_any hx hd
  obtain ⟨q, hq⟩ : ∃ q, d.up = q := ⟨_, rfl⟩
  rw [hq] at hr hrl hroot
  obtain ⟨kk, hkk⟩ : ∃ q, r.c.kind = q := ⟨_, rfl⟩
  rw [hkk] at hk ⊢
  obtain ⟨q0, q1⟩ := pt_int hrl
  have HN := Lib.hid hr; have HRT := Lib.hid hroot; have HKD := Lib.hid hk; have HKK := Lib.hid hkk
  clear hr hroot hq hrl hk hkk h
  go_enter Try.func50, Try.ntmps50
  go_upto_region 1 with fail
  go_wp2_with fail
  refine HKD.out.mono ?_
  rintro e w2 ⟨rfl, hsv, hk⟩
  have HSV := Lib.hid hsv; have HK1 := Lib.hid hk
  clear hsv hk
  by_cases h6 : kk = 6
  · subst h6
    go_upto_region 3 with fail
    have HSV := Lib.hid HSV.out.drew
    refine wp_region_rel (R := RS B s g cap L C K H) RS.refl RS.trans [(0, false), (0, false), (0, false), (0, false), (0, false), (0, false), (0, true), (0, false), (0, false), (0, false), (0, false)] (by kernel_rfl) (by kernel_rfl) (by kernel_rfl) (fun _ _ _ d _ h => by cases d <;> exact h) ?_
    repeat
      first
      | (first | with_reducible refine rp0 (fun K hK => ?_) | with_reducible refine rp1 (fun K hK => ?_) | with_reducible refine rp2 (fun K hK => ?_) | with_reducible refine rp3 (fun K hK => ?_) | with_reducible refine rp4 (fun K hK => ?_)
         go_simp
         first
         | (with_reducible refine hK _ _ ?_; clear hK K)
         | (with_reducible apply Exists.intro
            refine ⟨fun x hx => ?_, hK _ _ ?_⟩
            first
              | (with_reducible exact rfl)
              | (have y0 := (hx.1 HSV.out).sbox.2.2.1; go_simp; done)
              | (have y0 := (hx.1 HSV.out).sbox.2.2.1; go_simp; with_reducible exact rfl)
            clear hK K))
      | (first | with_reducible refine rk0 ?_ (fun K hK => ?_) | with_reducible refine rk1 ?_ (fun K hK => ?_) | with_reducible refine rk2 ?_ (fun K hK => ?_) | with_reducible refine rk3 ?_ (fun K hK => ?_) | with_reducible refine rk4 ?_ (fun K hK => ?_)
         rfl
         go_simp
         with_reducible refine hK _ _ ?_
         clear hK K)
    first | with_reducible refine rc0 (fun K hK => ?_) | with_reducible refine rc1 (fun K hK => ?_) | with_reducible refine rc2 (fun K hK => ?_) | with_reducible refine rc3 (fun K hK => ?_) | with_reducible refine rc4 (fun K hK => ?_)
    go_simp
    refine (HRT.out _ HSV.out).mono ?_
    rintro e w4 ⟨rfl, hsv, hk⟩
    refine ⟨⟨fun _ => hsv, hk⟩, hK _ _ ?_⟩
    clear hK K
    have HSV4 := Lib.hid hsv; have HK4 := Lib.hid hk
    clear hsv hk
    clear HSV
    have HSV := HSV4
    have cb := HSV.out.sbox.2.2.1
    repeat
      first
      | (first | with_reducible refine rp0 (fun K hK => ?_) | with_reducible refine rp1 (fun K hK => ?_) | with_reducible refine rp2 (fun K hK => ?_) | with_reducible refine rp3 (fun K hK => ?_) | with_reducible refine rp4 (fun K hK => ?_)
         go_simp
         first
         | (with_reducible refine hK _ _ ?_; clear hK K)
         | (with_reducible apply Exists.intro
            refine ⟨fun x hx => ?_, hK _ _ ?_⟩
            first
              | (with_reducible exact rfl)
              | (have y0 := (hx.1 HSV.out).sbox.2.2.1; have y1 := ((hx.1 HSV.out).node HN.out).2.1; go_simp; done)
              | (have y0 := (hx.1 HSV.out).sbox.2.2.1; have y1 := ((hx.1 HSV.out).node HN.out).2.1; go_simp; with_reducible exact rfl)
            clear hK K))
      | (first | with_reducible refine rk0 ?_ (fun K hK => ?_) | with_reducible refine rk1 ?_ (fun K hK => ?_) | with_reducible refine rk2 ?_ (fun K hK => ?_) | with_reducible refine rk3 ?_ (fun K hK => ?_) | with_reducible refine rk4 ?_ (fun K hK => ?_)
         rfl
         go_simp
         with_reducible refine hK _ _ ?_
         clear hK K)
    with_reducible refine rel_nil ?_
    go_wp2_with fail
    go_ret
    exact ⟨rfl, HSV.out, (HK1.out.drew).next HK4.out⟩
  · have h6' : (kk == 6) = false := by simp [h6]
    have h6'' : (kk != 6) = true := by simp [h6]
    go_wp2_with fail
    go_ret
    exact ⟨rfl, HSV.out, HK1.out⟩
set_option maxRecDepth 100000 in
set_option maxHeartbeats 2000000 in
theorem kids12_any (h : SV B s g cap L C K w H) {p : Nat} {d : SNd} (hd : H[p]? = some d) :
    Calls Try.prog 81 #[.pointer (some ⟨s, 0, none⟩), .int .i64 (p : Int)] w fun e w' => e = .returned (.slice (some ⟨g, p * 6 + 2, none⟩) (ar d.c.kind) 2) ∧ Below w.heap.size w w' := by
  have hpl := (List.getElem?_eq_some_iff.1 hd).1
  obtain ⟨q0, q1⟩ := pt_int hpl
  obtain ⟨c0, c1, c2, c3⟩ := h.sbox
  have ck := (h.node hd).1
  obtain ⟨kk, hkk⟩ : ∃ q, d.c.kind = q := ⟨_, rfl⟩
  rw [hkk] at ck ⊢
  have hks := kids_slice g (p * 6 + 2) (ar kk) (ar_le kk)
  obtain ⟨m, hm⟩ : ∃ q, ar kk = q := ⟨_, rfl⟩
  have har := fun x => arity12_any kk x
  rw [hm] at hks ⊢
  simp only [hm] at har
  have HAR := Lib.hid har; have HGL := Lib.hid h.far.2.1
  clear har hkk hm h hd
  go_enter Try.func81, Try.ntmps81
  go_upto_region 2 with fail
  have HCB := Lib.hid (show w.drew.cell? ⟨g, p * 6, none⟩ = some (.int .i64 kk) from ck)
  refine wp_region_rel (R := fun a b => Below w.heap.size a b) (fun _ => Below.refl _ _) (fun h k => h.trans k) [(0, false), (0, false), (0, false), (0, false), (0, false), (0, false), (0, false), (0, true), (0, false), (0, false)] (by kernel_rfl) (by kernel_rfl) (by kernel_rfl) (fun _ _ _ d _ h => by cases d <;> exact h) ?_
  repeat
    first
    | (first | with_reducible refine rp0 (fun K hK => ?_) | with_reducible refine rp1 (fun K hK => ?_) | with_reducible refine rp2 (fun K hK => ?_) | with_reducible refine rp3 (fun K hK => ?_) | with_reducible refine rp4 (fun K hK => ?_)
       go_simp
       first
       | (with_reducible refine hK _ _ ?_; clear hK K)
       | (with_reducible apply Exists.intro
          refine ⟨fun x hx => ?_, hK _ _ ?_⟩
          first
            | (with_reducible exact rfl)
            | (have y0 := (World.cell?_of_block (a := ⟨g, p * 6, none⟩) (hx.block g HGL.out)).trans HCB.out; go_simp; done)
            | (have y0 := (World.cell?_of_block (a := ⟨g, p * 6, none⟩) (hx.block g HGL.out)).trans HCB.out; go_simp; with_reducible exact rfl)
          clear hK K))
    | (first | with_reducible refine rk0 ?_ (fun K hK => ?_) | with_reducible refine rk1 ?_ (fun K hK => ?_) | with_reducible refine rk2 ?_ (fun K hK => ?_) | with_reducible refine rk3 ?_ (fun K hK => ?_) | with_reducible refine rk4 ?_ (fun K hK => ?_)
       rfl
       go_simp
       with_reducible refine hK _ _ ?_
       clear hK K)
  first | with_reducible refine rc0 (fun K hK => ?_) | with_reducible refine rc1 (fun K hK => ?_) | with_reducible refine rc2 (fun K hK => ?_) | with_reducible refine rc3 (fun K hK => ?_) | with_reducible refine rc4 (fun K hK => ?_)
  go_simp
  refine (HAR.out _).mono ?_
  rintro e w4 ⟨rfl, rfl⟩
  refine ⟨Below.refl _ _, hK _ _ ?_⟩
  clear hK K
  repeat
    first
    | (first | with_reducible refine rp0 (fun K hK => ?_) | with_reducible refine rp1 (fun K hK => ?_) | with_reducible refine rp2 (fun K hK => ?_) | with_reducible refine rp3 (fun K hK => ?_) | with_reducible refine rp4 (fun K hK => ?_)
       go_simp
       first
       | (with_reducible refine hK _ _ ?_; clear hK K)
       | (with_reducible apply Exists.intro
          refine ⟨fun x hx => ?_, hK _ _ ?_⟩
          first
            | (with_reducible exact rfl)
          clear hK K))
    | (first | with_reducible refine rk0 ?_ (fun K hK => ?_) | with_reducible refine rk1 ?_ (fun K hK => ?_) | with_reducible refine rk2 ?_ (fun K hK => ?_) | with_reducible refine rk3 ?_ (fun K hK => ?_) | with_reducible refine rk4 ?_ (fun K hK => ?_)
       rfl
       go_simp
       with_reducible refine hK _ _ ?_
       clear hK K)
  with_reducible refine rel_nil ?_
  go_wp2_with fail
  go_ret
  exact ⟨rfl, (Below.refl _ _).drew⟩
set_option maxRecDepth 100000 in
set_option maxHeartbeats 2000000 in
theorem var12_any (h : SV B s g cap L C K w H) (hB : Bds L C H) (l : Int) (hl : 0 ≤ l) (hC : C < L) :
    Calls Try.prog 24 #[.pointer (some ⟨s, 0, none⟩), .int .i64 l] w fun e w' => e = .returned (.tuple #[.int .i64 (H.length : Int), .int .i64 0]) ∧ AddP B s g L C K H ⟨6, l, 0, 0, 0⟩ w w' := by
  obtain ⟨b0, b1, b2, b3⟩ := hB
  have hl' : ¬ l < 0 := by omega
  have hr := room12_any h
  have hw : wrap64 (L - C) = L - C := by unfold wrap64; omega
  rw [hw] at hr
  have hrn : (L - C == 0) = false := by simp; omega
  obtain ⟨q, hq⟩ : ∃ q, L - C = q := ⟨_, rfl⟩
  rw [hq] at hr hrn
  have HR := Lib.hid hr; have HSV := Lib.hid h
  have had := fun x (hx : SV B s g cap L C K x H) => add12_any hx ⟨6, l, 0, 0, 0⟩ 0 (by omega) ⟨b0, by omega⟩
  have HAD := Lib.hid had
  clear hr h had hq hw b0 b1 b2 b3 hC
  go_enter Try.func24, Try.ntmps24
  go_wp2_with fail
  refine HR.out.mono ?_
  rintro e w2 ⟨rfl, hb⟩
  have HB := Lib.hid hb
  clear hb
  go_wp2_with fail
  refine (HAD.out _ (HSV.out.below HB.out)).mono ?_
  rintro e w3 ⟨rfl, hp⟩
  have HP := Lib.hid hp
  clear hp
  go_wp2_with fail
  exact bodyPost_ret (v := .tuple #[.int .i64 (H.length : Int), .int .i64 0]) (by simp [results, Try.f24, go_sem]) rfl ⟨rfl, HP.out.below HB.out⟩
set_option maxRecDepth 100000 in
theorem var12_full (h : SV B s g cap L C K w H) (l : Int) (hl : 0 ≤ l) (hC : C = L) :
    Calls Try.prog 24 #[.pointer (some ⟨s, 0, none⟩), .int .i64 l] w fun e w' => e = .returned (.tuple #[.int .i64 0, .int .i64 7]) ∧ Below w.heap.size w w' := by
  have hl' : ¬ l < 0 := by omega
  have hr := room12_any h
  have hw : wrap64 (L - C) = 0 := by unfold wrap64; omega
  rw [hw] at hr
  clear h hw hC
  go_enter Try.func24, Try.ntmps24
  go_wp2_with fail
  refine hr.mono ?_
  rintro e w2 ⟨rfl, hb⟩
  go_wp2_with fail
  exact bodyPost_ret (v := .tuple #[.int .i64 0, .int .i64 7]) (by simp [results, Try.f24, go_sem]) rfl ⟨rfl, hb⟩
end
end Go.Proofs.Yteolbbgnkbcfmaa
namespace Go.Proofs.Yteolbbgnkbcfmaa
open Go Go.RowKit
open Tp (T)
open Sg (Of Rt)
theorem _root_.Go.RowKit.Below.tr {w w1 w2 : World} {n : Nat} (h : Below n w w1) (h2 : Below w1.heap.size w1 w2) (hn : n ≤ w.heap.size) : Below n w w2 := h.trans (h2.mono (Nat.le_trans hn h.size))
section
variable {B s g cap : Nat} {L C K : Int} {w : World} {H : List SNd}
def kidL (k a b : Int) : List Int := [a, b].take (ar k)
theorem kidL_len (k a b : Int) : (kidL k a b).length = ar k := by unfold kidL; rw [List.length_take]; have := ar_le k; simp; omega
theorem kidL_at {W : World} {bx : Nat} {ty : TypeId} {k l a b u m : Int} (h : W.heap[bx]? = some (.cells #[.int .i64 k, .int .i64 l, .int .i64 a, .int .i64 b, .int .i64 u, .int .i64 m] ty)) (q : Int) : IntsAt W (kidL q a b) (some ⟨bx, 2, none⟩) := fun i hi => by
  refine ⟨bx, 2, rfl, ?_⟩
  have h2 : i < 2 := by rw [kidL_len] at hi; have := ar_le q; omega
  match i, h2 with
  | 0, _ =>
    have : (kidL q a b)[0] = a := by simp [kidL]
    rw [this]; exact cell_box h rfl rfl
  | 1, _ =>
    have : (kidL q a b)[1] = b := by simp [kidL]
    rw [this]; exact cell_box h rfl rfl
/-- What Make hands back: m kids, all of them nodes? -/
def MkP (B s g : Nat) (L C K : Int) (H : List SNd) (c : Sg.Cr) (m : Nat) (ok : Bool) (w : World) (e : Ending) (w' : World) : Prop :=
  if m = 0 ∨ ok = false then e = .returned (.tuple #[.int .i64 0, .int .i64 1]) ∧ Below w.heap.size w w'
  else if C = L then e = .returned (.tuple #[.int .i64 0, .int .i64 7]) ∧ Below w.heap.size w w'
  else e = .returned (.tuple #[.int .i64 (H.length : Int), .int .i64 0]) ∧ AddP B s g L C K H c w w'
set_option maxRecDepth 100000 in
set_option maxHeartbeats 2000000 in
/-- What Make does up to its guard, and what follows. -/
theorem make12_any (h : SV B s g cap L C K w H) (hB : Bds L C H) (k a b : Int) : 
    Calls Try.prog 53 #[.pointer (some ⟨s, 0, none⟩), .int .i64 k, .int .i64 a, .int .i64 b] w (MkP B s g L C K H ⟨k, 0, a, b, 0⟩ (ar k) ((kidL k a b).all (okN H.length)) w) := by
  obtain ⟨W1, hW1⟩ : ∃ W, w.alloc (.cells #[.int .i64 k, .int .i64 0, .int .i64 a, .int .i64 b, .int .i64 0, .int .i64 0] 88) = W := ⟨_, rfl⟩
  have hb1 : Below w.heap.size w W1 := by rw [← hW1]; exact (Below.refl _ _).alloc (Nat.le_refl _) _
  have hx1 : W1.heap[w.heap.size]? = some (.cells #[.int .i64 k, .int .i64 0, .int .i64 a, .int .i64 b, .int .i64 0, .int .i64 0] 88) := by rw [← hW1]; exact World.alloc_heap_new w _
  have h1 := h.below hb1
  have hks := kids_slice w.heap.size 2 (ar k) (ar_le k)
  have har := arity12_any k
  have hhv := have12_any h1 (kidL k a b) (some ⟨w.heap.size, 2, none⟩) 2 (by rw [kidL_len]; have := ar_le k; unfold maxLen; omega) (kidL_at hx1 k)
  rw [kidL_len] at hhv
  have hle := ar_le k
  obtain ⟨m, hm⟩ : ∃ m, ar k = m := ⟨_, rfl⟩
  obtain ⟨ok, hok⟩ : ∃ z, (kidL k a b).all (okN H.length) = z := ⟨_, rfl⟩
  simp only [hm] at hks har hhv hle ⊢
  simp only [hok] at hhv ⊢
  have HAR := Lib.hid har; have HHV := Lib.hid hhv; have HW1 := Lib.hid hW1; have HB1 := Lib.hid hb1; have HX1 := Lib.hid hx1; have HSV := Lib.hid h1; have HBD := Lib.hid hB
  clear har hhv hW1 hb1 hx1 h1 h hB hok hm
  go_enter Try.func53, Try.ntmps53
  go_upto_region 2 with fail
  rw [HW1.out]
  go_wp2_with fail
  refine (HAR.out _).mono ?_
  rintro e w2 ⟨rfl, rfl⟩
  by_cases hm0 : m = 0
  · subst hm0
    go_wp2_with fail
    exact bodyPost_ret (v := .tuple #[.int .i64 0, .int .i64 1]) (by simp [results, Try.f53, go_sem]) rfl (by unfold MkP; rw [if_pos (.inl rfl)]; exact ⟨rfl, HB1.out⟩)
  · have hmi : ((m : Int) == 0) = false := by simp [hm0]
    have hmj : ¬ (m : Int) = 0 := by omega
    go_upto_region 3 with fail
    go_wp2_with fail
    refine HHV.out.mono ?_
    rintro e w3 ⟨rfl, rfl⟩
    cases ok with
    | false =>
      go_wp2_with fail
      exact bodyPost_ret (v := .tuple #[.int .i64 0, .int .i64 1]) (by simp [results, Try.f53, go_sem]) rfl (by unfold MkP; rw [if_pos (.inr rfl)]; exact ⟨rfl, HB1.out⟩)
    | true =>
      have hr := room12_any HSV.out
      obtain ⟨b0, b1, b2, b3⟩ := HBD.out
      have hw : wrap64 (L - C) = L - C := by unfold wrap64; omega
      rw [hw] at hr
      by_cases hC : C = L
      · rw [show L - C = 0 by omega] at hr
        have HR := Lib.hid hr
        clear hr hw b0 b1 b2 b3
        go_wp2_with fail
        refine HR.out.mono ?_
        rintro e w4 ⟨rfl, hb⟩
        have HB4 := Lib.hid (HB1.out.tr hb (Nat.le_refl _)); have HCC := Lib.hid hC
        clear hb hC
        go_wp2_with fail
        exact bodyPost_ret (v := .tuple #[.int .i64 0, .int .i64 7]) (by simp [results, Try.f53, go_sem]) rfl (by unfold MkP; rw [if_neg (by simp [hm0]), if_pos HCC.out]; exact ⟨rfl, HB4.out⟩)
      · have hrn : (L - C == 0) = false := by simp; omega
        have had := fun x (hx : SV B s g cap L C K x H) => add12_any hx ⟨k, 0, a, b, 0⟩ 0 (by omega) ⟨b0, by omega⟩
        obtain ⟨q, hq⟩ : ∃ q, L - C = q := ⟨_, rfl⟩
        rw [hq] at hr hrn
        have HR := Lib.hid hr; have HAD := Lib.hid had; have HCC := Lib.hid hC
        clear hr had hq hw b0 b1 b2 b3 hC
        go_upto_region 5 with fail
        go_wp2_with fail
        refine HR.out.mono ?_
        rintro e w4 ⟨rfl, hb⟩
        have HB4 := Lib.hid (HB1.out.tr hb (Nat.le_refl _)); have HX4 := Lib.hid ((hb.block _ (Array.getElem?_eq_some_iff.1 HX1.out).1).trans HX1.out); have HSV4 := Lib.hid (HSV.out.below hb)
        clear hb
        have x0 : w4.cell? ⟨w.heap.size, 0, none⟩ = some (.int .i64 k) := cell_box HX4.out rfl rfl
        have x1 : w4.cell? ⟨w.heap.size, 1, none⟩ = some (.int .i64 0) := cell_box HX4.out rfl rfl
        have x2 : w4.cell? ⟨w.heap.size, 2, none⟩ = some (.int .i64 a) := cell_box HX4.out rfl rfl
        have x3 : w4.cell? ⟨w.heap.size, 3, none⟩ = some (.int .i64 b) := cell_box HX4.out rfl rfl
        have x4 : w4.cell? ⟨w.heap.size, 4, none⟩ = some (.int .i64 0) := cell_box HX4.out rfl rfl
        have x5 : w4.cell? ⟨w.heap.size, 5, none⟩ = some (.int .i64 0) := cell_box HX4.out rfl rfl
        go_upto_region 7 with fail
        go_wp2_with fail
        refine (HAD.out _ HSV4.out).mono ?_
        clear x0 x1 x2 x3 x4 x5
        rintro e w5 ⟨rfl, hp⟩
        have HP := Lib.hid hp
        clear hp
        go_wp2_with fail
        exact bodyPost_ret (v := .tuple #[.int .i64 (H.length : Int), .int .i64 0]) (by simp [results, Try.f53, go_sem]) rfl (by unfold MkP; rw [if_neg (by simp [hm0]), if_neg HCC.out]; exact ⟨rfl, HP.out.below HB4.out⟩)
end
end Go.Proofs.Yteolbbgnkbcfmaa
namespace Go.Proofs.Yteolbbgnkbcfmaa
open Go Go.RowKit
open Tp (T)
open Sg (Of Rt)
/-- The first nodes. -/
def lvs (k : Nat) : List SNd := (List.range k).map fun (i : Nat) => ⟨⟨((i : Nat) : Int) + 1, 0, 0, 0, 0⟩, i⟩
theorem lvs_succ (k : Nat) : lvs (k + 1) = lvs k ++ [⟨⟨(k : Int) + 1, 0, 0, 0, 0⟩, k⟩] := by unfold lvs; rw [List.range_succ, List.map_append]; rfl
theorem lvs_len (k : Nat) : (lvs k).length = k := by unfold lvs; simp
theorem lvs_of : ∀ k, Of (lvs k) (lvs k)
  | 0 => ⟨rfl, fun p g h hg => by simp [lvs] at hg⟩
  | k + 1 => by rw [lvs_succ]; exact (lvs_of k).snoc_own (by rw [lvs_len])
theorem row_box {B n : Nat} {w : World} {v : Value} {xs : List Value} {b : Nat} {A : Array Value} (h : w.ownsRow B 88 6 v n xs) (hb : w.heap[b]? = some (.cells A 85)) : v.ownBlock ≠ some b := row_far h hb store_no
theorem own_shapeN {B n sz : Nat} {e : TypeId} {w : World} {v : Value} {xs : List Value} (h : w.ownsRow B e sz v n xs) : ∃ a c, v = .slice a n c := by
  rcases h.2 with ⟨h1, h2⟩ | ⟨g, cap, cur, h1, _⟩
  · exact ⟨none, 0, by rw [h1, h2]⟩
  · exact ⟨_, _, h1⟩
def NewP (l : Int) (w : World) (e : Ending) (w' : World) : Prop := ∃ g cap, e = .returned (.pointer (some ⟨w.heap.size, 0, none⟩)) ∧ SV w.heap.size w.heap.size g cap (min (max l 0) 65536) 0 0 w' (lvs 5) ∧ Below w.heap.size w w'
set_option maxRecDepth 100000 in
set_option maxHeartbeats 4000000 in
theorem new12_any (l : Int) (w : World) : Calls Try.prog 12 #[.int .i64 l] w (NewP l w) := by
  obtain ⟨L, hL⟩ : ∃ L, (if 65536 < (if l < 0 then 0 else l) then 65536 else (if l < 0 then 0 else l)) = L := ⟨_, rfl⟩
  have hLm : min (max l 0) 65536 = L := by rw [← hL]; split <;> split <;> omega
  obtain ⟨W1, hW1⟩ : ∃ W, w.alloc (.cells #[.int .i64 L, .int .i64 0, .slice none 0 0, .int .i64 0] 85) = W := ⟨_, rfl⟩
  have hb1 : Below w.heap.size w W1 := by rw [← hW1]; exact (Below.refl _ _).alloc (Nat.le_refl _) _
  have hx1 : W1.heap[w.heap.size]? = some (.cells #[.int .i64 L, .int .i64 0, .slice none 0 0, .int .i64 0] 85) := by rw [← hW1]; exact World.alloc_heap_new w _
  have HL := Lib.hid hLm; have HW1 := Lib.hid hW1; have HB1 := Lib.hid hb1; have HX1 := Lib.hid hx1
  clear hW1 hb1 hx1 hLm
  go_enter Try.func12, Try.ntmps12
  go_upto_region 2 with fail
  rw [HW1.out]
  clear hL
  generalize (if l < 0 then (0 : Int) else l) = q6
  go_wp2_with fail
  go_loopg [4] 5 (fun gk v wr => ∃ (k : Nat) (v2 : Value), k ≤ 5 ∧ v = .int .i64 ((k : Int) + 1) ∧ wr.heap[w.heap.size]? = some (.cells #[.int .i64 L, .int .i64 0, v2, .int .i64 0] 85) ∧ wr.ownsRow w.heap.size 88 6 v2 k (Sg.ndRow (lvs k)) ∧ Below w.heap.size w wr ∧ gk = 5 - k)
  case atStart => exact ⟨0, .slice none 0 0, by omega, rfl, HX1.out, World.ownsRow_nil _ _ _ _, HB1.out, rfl⟩
  case round =>
    obtain ⟨k, v2, hk5, rfl, hbx, hown, hbw, rfl⟩ := hrel
    obtain ⟨av, cv, rfl⟩ := own_shapeN hown
    have c2 : wr.cell? ⟨w.heap.size, 2, none⟩ = some (.slice av k cv) := cell_box hbx rfl rfl
    have hsz : w.heap.size < wr.heap.size := (Array.getElem?_eq_some_iff.1 hbx).1
    have HBX := Lib.hid hbx; have HOWN := Lib.hid hown; have HBW := Lib.hid hbw
    clear hbx hown hbw HX1 HB1
    by_cases hlt : k < 5
    · have hw1 : wrap64 ((k : Int) + 1 - 1) = (k : Int) := by unfold wrap64; omega
      have hc := leaf12_any ((k : Int) + 1) wr.drew
      rw [hw1] at hc
      have HC := Lib.hid hc; clear hc hw1
      obtain ⟨i9, hi, hz0, hz1, hz2⟩ := info_parts info_nd
      obtain ⟨b1, b2⟩ := b48n (r := k) (by omega)
      have B1 := Lib.hid b1; have B2 := Lib.hid b2
      clear b1 b2
      go_upto_region 5 with fail
      go_region_law (first
        | (refine step_call ?_ 52 #[.tmp 20] #[3] ?_ #[.int .i64 ((k : Int) + 1)] ?_ ?_ HC.out (fun _ _ h => ⟨_, h.1⟩) ?_
           (· rfl)
           (· rfl)
           (· first | (simp [Act.eval]; done) | kernel_rfl)
           (· exact enters_of Try.func52 (by kernel_rfl) rfl)
           rintro _ w6 ⟨h1, rfl⟩
           injection h1 with h1
           subst h1)
        | (refine step_append_lies _ ?_ (.tmp 18) (.tmp 23) 83 ?_ w.heap.size 88 i9 (.agg #[.int .i64 0, .int .i64 0, .int .i64 0, .int .i64 0, .int .i64 0, .int .i64 0]) 6 48 Try.underlying83 hi hz0 hz1 hz2 ?_ ?_ (.slice av k cv) k (Sg.ndRow (lvs k)) ?_ ?_ ⟨wr.heap.size, 0, none⟩ 1 1 [.int .i64 ((k : Int) + 1), .int .i64 0, .int .i64 0, .int .i64 0, .int .i64 (k : Int), .int .i64 0] ?_ ?_ ?_ ?_ ?_ ?_ ?_ ?_ (wr.heap.size + 1) ?_ ?_; (· rfl); (· rfl); (· rfl); (· decide); (· rfl); (· exact HOWN.out.alloc _); (· rfl); (· rfl); (· exact World.news_of_block (World.alloc_heap_new wr _)); (· exact Sg.nd_one ⟨⟨(k : Int) + 1, 0, 0, 0, 0⟩, k⟩); (· decide); (· exact B2.out); (· exact B1.out); (· exact Nat.le_trans (Nat.le_of_lt hsz) (by simp)); (· simp); intro g1 cap1 w7 own1 gr1 ly1 lt1; (have gr1' := undrew gr1); (have hbs7 : w7.heap[w.heap.size]? = some (.cells #[.int .i64 L, .int .i64 0, .slice av k cv, .int .i64 0] 85) := (gr1'.block w.heap.size (by rw [World.size_alloc]; omega) (fun e => row_box HOWN.out HBX.out e.symm)).trans ((Below.heap_alloc _ _ _ hsz).trans HBX.out)); (have cs7 : w7.cell? ⟨w.heap.size, 2, none⟩ = some (.slice av k cv) := cell_box hbs7 rfl rfl); (have fs7 : w7.frozen? ⟨w.heap.size, 2, none⟩ = false := IsC.frozen ⟨_, _, hbs7⟩); (have HGR7 := Lib.hid gr1'); (have HOWN7 := Lib.hid own1); (have HBS7 := Lib.hid hbs7); clear gr1 gr1' own1 hbs7 ly1 lt1))
      all_goals
        have hlw : Below w.heap.size w (w7.setCell ⟨w.heap.size, 2, none⟩ (.slice (some ⟨g1, 0, none⟩) (k + 1) cap1)) := ((HBW.out.alloc HBW.out.size _).grown HGR7.out (Nat.le_trans HBW.out.size (by simp)) (fun z hz => (HOWN.out.lt z hz).1)).setCell (p := ⟨w.heap.size, 2, none⟩) (Nat.le_refl _) _
        have hne : (Value.slice (some ⟨g1, 0, none⟩) (k + 1) cap1).ownBlock ≠ some w.heap.size := row_box HOWN7.out HBS7.out
        have hown8 := own_same (w' := w7.setCell ⟨w.heap.size, 2, none⟩ (.slice (some ⟨g1, 0, none⟩) (k + 1) cap1)) HOWN7.out (fun z hz => Below.heap_setCell _ _ _ _ (fun (e : z = w.heap.size) => hne (e ▸ hz)))
        have hbx8 := box_set (i := 2) (v := .slice (some ⟨g1, 0, none⟩) (k + 1) cap1) HBS7.out
        have HLW := Lib.hid hlw; have HOWN8 := Lib.hid hown8; have HBX8 := Lib.hid hbx8
        clear hlw hne hown8 hbx8 cs7 fs7 c2 hi hz0 hz1 hz2 hsz
        go_wp2_with fail
        go_roundg (5 - (k + 1))
        case measure => omega
        case rel =>
          refine ⟨k + 1, _, hlt, ?_, HBX8.out, ?_, HLW.out, rfl⟩
          · rw [show (k : Int) + 1 + 1 = ((k + 1 : Nat) : Int) + 1 from by omega]
          · rw [lvs_succ, Sg.ndRow_snoc]; exact HOWN8.out
    · obtain rfl : k = 5 := by omega
      have HSV : RowKit.Hid (∃ g cap, SV w.heap.size w.heap.size g cap L 0 0 wr (lvs 5)) := by
        rcases HOWN.out.2 with ⟨_, h2⟩ | ⟨g, cap, cur, h1, h2, h3, h4⟩
        · omega
        · injection h1 with q1 q2 q3
          subst q1 q3
          exact ⟨g, _, ⟨lvs 5, lvs_of 5, by rw [lvs_len]; exact HOWN.out⟩, by rw [lvs_len]; exact HBX.out, Nat.le_refl _⟩
      go_wp2_with fail
      go_ret
      obtain ⟨g, cap, h⟩ := HSV.out
      exact ⟨g, cap, rfl, by rw [HL.out]; exact h, HBW.out⟩
end Go.Proofs.Yteolbbgnkbcfmaa
