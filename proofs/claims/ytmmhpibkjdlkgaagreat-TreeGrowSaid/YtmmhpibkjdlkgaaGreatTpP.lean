/- Plain facts on types as trees: sizes, depths, right ones, variables; the nodes in the order of the tree. Types that lie in memory: a node takes three cells, its kids a slice. Walks: typ.right, typ.alike; the page's Kids. A range over a function whose iterator keeps a stack of its own in memory: what the iterator owes, what the loop's body owes, and the statement's law. At the fence that asks nothing. typ.nodes: the nodes of a type in the order of the tree, by a stack of the iterator's own. -/
import Derived.Test.YtmmhpibkjdlkgaaGreatProg
import Derived.WalkKit
import Derived.Below
import Derived.WalkSpells
import Derived.WalkLawsBesides
import Derived.Lib.Hide
import Derived.RangeFuncNested
import Derived.RangeFuncBound
import Derived.RangeFuncCalls
import Derived.RangeFuncLeaves
import Derived.Shelf.Abstract
import Derived.Shelf.RegionOpen
import Derived.OwnWalkIn
import Derived.TacticsInMore
import Derived.LoopNIn
import Derived.LoopIn
import Derived.RangeFuncBox
import Derived.Sort.LoopGhostIn
import Derived.Sort.CutIn
import Derived.Deep.LoopGhost
import Derived.Deep.AppendLies
import Derived.Deep.RegionLaw
import Derived.Outline
namespace Go.Proofs.YtmmhpibkjdlkgaaGreat.Tp
/-- A type: its kind, its number, its kids. -/
inductive T where
  | mk (k n : Int) (l : List T)
def T.kind : T → Int | .mk k _ _ => k
def T.num : T → Int | .mk _ n _ => n
def T.kids : T → List T | .mk _ _ l => l
mutual
def size : T → Nat | .mk _ _ l => sizes l + 1
def sizes : List T → Nat | [] => 0 | t :: r => size t + sizes r
end
mutual
def depth : T → Nat | .mk _ _ l => depths l + 1
def depths : List T → Nat | [] => 0 | t :: r => max (depth t) (depths r)
end
/-- How many kids a kind has; -1: it is none. -/
def arity (k : Int) : Int := if k = 1 ∨ k = 2 ∨ k = 3 ∨ k = 4 ∨ k = 5 ∨ k = 6 then 0 else if k = 8 then 1 else if k = 7 ∨ k = 9 then 2 else -1
/-- Is a node right, whatever its kids are? -/
def nodeRight (k n : Int) (len : Nat) : Bool := decide (arity k = len) && decide (0 ≤ n) && decide (n ≤ 1048576) && (decide (k = 6) || decide (n = 0))
mutual
def right : T → Bool | .mk k n l => nodeRight k n l.length && rights l
def rights : List T → Bool | [] => true | t :: r => right t && rights r
end
mutual
def without (x : Int) : T → Bool | .mk k _ l => !decide (k = x) && withouts x l
def withouts (x : Int) : List T → Bool | [] => true | t :: r => without x t && withouts x r
end
mutual
def same : T → T → Bool | .mk k n l, .mk k' n' l' => decide (k = k') && decide (n = n') && decide (l.length = l'.length) && sames l l'
def sames : List T → List T → Bool | a :: r, b :: s => same a b && sames r s | _, _ => true
end
/-- One variable more, if it is none that was told. -/
def addVar (k n : Int) (acc : List Int) : List Int := if k = 6 ∧ ¬ n ∈ acc then acc ++ [n] else acc
mutual
def vars : T → List Int → List Int | .mk k n l, acc => varss l (addVar k n acc)
def varss : List T → List Int → List Int | [], acc => acc | t :: r, acc => varss r (vars t acc)
end
mutual
/-- The nodes in the order of the tree, each with its depth. -/
def pre : T → Nat → List (T × Nat) | .mk k n l, d => (.mk k n l, d) :: pres l (d + 1)
def pres : List T → Nat → List (T × Nat) | [], _ => [] | t :: r, d => pre t d ++ pres r d
end

theorem size_pos : ∀ t : T, 0 < size t | .mk _ _ _ => by simp [size]
theorem sizes_append : ∀ l m : List T, sizes (l ++ m) = sizes l + sizes m
  | [], m => by simp [sizes]
  | t :: r, m => by simp [sizes, sizes_append r m]; omega
theorem length_le_sizes : ∀ l : List T, l.length ≤ sizes l
  | [] => by simp
  | t :: r => by have := size_pos t; have := length_le_sizes r; simp [sizes]; omega
mutual
theorem depth_le_size : ∀ t : T, depth t ≤ size t | .mk k n l => by have := depths_le_sizes l; simp [depth, size]; omega
theorem depths_le_sizes : ∀ l : List T, depths l ≤ sizes l
  | [] => by simp [depths]
  | t :: r => by have := depth_le_size t; have := depths_le_sizes r; simp [depths, sizes]; omega
end
mutual
theorem pre_length : ∀ (t : T) (d : Nat), (pre t d).length = size t | .mk k n l, d => by simp [pre, size, pres_length l]
theorem pres_length : ∀ (l : List T) (d : Nat), (pres l d).length = sizes l
  | [], _ => by simp [pres, sizes]
  | t :: r, d => by simp [pres, sizes, pre_length t, pres_length r]
end
/-- The greatest depth in a row of nodes. -/
def maxD : List (T × Nat) → Nat → Nat | [], m => m | x :: r, m => maxD r (max m x.2)
theorem maxD_append : ∀ (l m : List (T × Nat)) (x : Nat), maxD (l ++ m) x = maxD m (maxD l x)
  | [], _, _ => rfl
  | y :: r, m, x => by simp [maxD, maxD_append r m]
mutual
theorem pre_maxD : ∀ (t : T) (d m : Nat), maxD (pre t (d + 1)) m = max m (depth t + d)
  | .mk k n l, d, m => by
    simp only [pre, maxD, depth]
    rw [pres_maxD l (d + 1)]
    by_cases h : l = []
    · subst h; simp [depths]; omega
    · simp only [h, if_false]; omega
theorem pres_maxD : ∀ (l : List T) (d m : Nat), maxD (pres l (d + 1)) m = if l = [] then m else max m (depths l + d)
  | [], _, _ => by simp [pres, maxD]
  | t :: r, d, m => by
    simp only [pres, maxD_append, pre_maxD t d, pres_maxD r d, depths, reduceCtorEq, if_false]
    split
    · rename_i h; subst h; simp [depths]
    · omega
end
mutual
theorem pre_right : ∀ (t : T) (d : Nat), (pre t d).all (fun x => nodeRight x.1.kind x.1.num x.1.kids.length) = right t
  | .mk k n l, d => by simp only [pre, List.all_cons, right, pres_right l]; rfl
theorem pres_right : ∀ (l : List T) (d : Nat), (pres l d).all (fun x => nodeRight x.1.kind x.1.num x.1.kids.length) = rights l
  | [], _ => by simp [pres, rights]
  | t :: r, d => by simp only [pres, List.all_append, rights, pre_right t, pres_right r]
end
mutual
theorem pre_without (x : Int) : ∀ (t : T) (d : Nat), (pre t d).all (fun y => !decide (y.1.kind = x)) = without x t
  | .mk k n l, d => by simp only [pre, List.all_cons, without, pres_without x l]; rfl
theorem pres_without (x : Int) : ∀ (l : List T) (d : Nat), (pres l d).all (fun y => !decide (y.1.kind = x)) = withouts x l
  | [], _ => by simp [pres, withouts]
  | t :: r, d => by simp only [pres, List.all_append, withouts, pre_without x t, pres_without x r]
end
/-- The variables of a row of nodes. -/
def rowVars : List (T × Nat) → List Int → List Int | [], acc => acc | x :: r, acc => rowVars r (addVar x.1.kind x.1.num acc)
theorem rowVars_append : ∀ (l m : List (T × Nat)) (x : List Int), rowVars (l ++ m) x = rowVars m (rowVars l x)
  | [], _, _ => rfl
  | y :: r, m, x => by simp [rowVars, rowVars_append r m]
mutual
theorem pre_vars : ∀ (t : T) (d : Nat) (acc : List Int), rowVars (pre t d) acc = vars t acc
  | .mk k n l, d, acc => by simp only [pre, rowVars, vars, pres_vars l]; rfl
theorem pres_vars : ∀ (l : List T) (d : Nat) (acc : List Int), rowVars (pres l d) acc = varss l acc
  | [], _, _ => by simp [pres, rowVars, varss]
  | t :: r, d, acc => by simp only [pres, rowVars_append, varss, pre_vars t, pres_vars r]
end
mutual
theorem same_iff : ∀ a b : T, same a b = true ↔ a = b
  | .mk k n l, .mk k' n' l' => by
    simp only [same, Bool.and_eq_true, decide_eq_true_eq, T.mk.injEq]
    constructor
    · rintro ⟨⟨⟨h1, h2⟩, h3⟩, h4⟩; exact ⟨h1, h2, (sames_iff l l' h3).1 h4⟩
    · rintro ⟨h1, h2, h3⟩; subst h3; exact ⟨⟨⟨h1, h2⟩, rfl⟩, (sames_iff l l rfl).2 rfl⟩
theorem sames_iff : ∀ a b : List T, a.length = b.length → (sames a b = true ↔ a = b)
  | [], [], _ => by simp [sames]
  | a :: r, b :: s, h => by simp [sames, same_iff a b, sames_iff r s (by simpa using h)]
end
end Go.Proofs.YtmmhpibkjdlkgaaGreat.Tp
namespace Go.Proofs.YtmmhpibkjdlkgaaGreat
open Go Go.RowKit
open Tp (T)

/-- The blocks below n. -/
def LT (n : Nat) : Nat → Prop := fun b => b < n
def I64 (x : Int) : Prop := -9223372036854775808 ≤ x ∧ x ≤ 9223372036854775807
mutual
/-- The cells from o on of block b are the type's. -/
def NodeAt (G : Nat → Prop) (W : World) : T → Nat → Nat → Prop
  | .mk k n l, b, o => I64 k ∧ I64 n ∧ W.cell? ⟨b, o, none⟩ = some (.int .i64 k) ∧ W.cell? ⟨b, o + 1, none⟩ = some (.int .i64 n) ∧
      ∃ a cap, W.cell? ⟨b, o + 2, none⟩ = some (.slice a l.length cap) ∧ l.length ≤ cap ∧ cap ≤ maxLen ∧ KidsAt G W l a
/-- A slice that begins at a holds these types, in blocks of G. -/
def KidsAt (G : Nat → Prop) (W : World) : List T → Option Addr → Prop
  | [], _ => True
  | t :: r, a => ∃ b o, a = some ⟨b, o, none⟩ ∧ G b ∧ NodeAt G W t b o ∧ KidsAt G W r (some ⟨b, o + 3, none⟩)
end
/-- The value of a slice that holds these types. -/
def SlAt (G : Nat → Prop) (W : World) (l : List T) (a : Option Addr) (cap : Nat) : Prop := l.length ≤ cap ∧ cap ≤ maxLen ∧ KidsAt G W l a
/-- The value of a type, by value. -/
def tv (t : T) (a : Option Addr) (cap : Nat) : Value := .agg #[.int .i64 t.kind, .int .i64 t.num, .slice a t.kids.length cap]
def TyAt (G : Nat → Prop) (W : World) (t : T) (a : Option Addr) (cap : Nat) : Prop := I64 t.kind ∧ I64 t.num ∧ SlAt G W t.kids a cap

mutual
theorem NodeAt.mono {G G' : Nat → Prop} {W W' : World} (h : ∀ b o, G b → W'.cell? ⟨b, o, none⟩ = W.cell? ⟨b, o, none⟩) (hn : ∀ b, G b → G' b) : ∀ (t : T) (b o : Nat), G b → NodeAt G W t b o → NodeAt G' W' t b o
  | .mk k n l, b, o, hb, hx => by
    simp only [NodeAt] at hx ⊢
    obtain ⟨h1, h2, h3, h4, a, cap, h5, h6, h7, h8⟩ := hx
    exact ⟨h1, h2, by rw [h _ _ hb]; exact h3, by rw [h _ _ hb]; exact h4, a, cap, by rw [h _ _ hb]; exact h5, h6, h7, KidsAt.mono h hn l a h8⟩
theorem KidsAt.mono {G G' : Nat → Prop} {W W' : World} (h : ∀ b o, G b → W'.cell? ⟨b, o, none⟩ = W.cell? ⟨b, o, none⟩) (hn : ∀ b, G b → G' b) : ∀ (l : List T) (a : Option Addr), KidsAt G W l a → KidsAt G' W' l a
  | [], _, _ => by simp [KidsAt]
  | t :: r, a, hx => by
    simp only [KidsAt] at hx ⊢
    obtain ⟨b, o, h1, h2, h3, h4⟩ := hx
    exact ⟨b, o, h1, hn b h2, NodeAt.mono h hn t b o h2 h3, KidsAt.mono h hn r _ h4⟩
end
theorem KidsAt.below {G G' : Nat → Prop} {B : Nat} {W W' : World} {l : List T} {a : Option Addr} (hx : KidsAt G W l a) (hb : Below B W W') (hB : ∀ b, G b → b < B) (hn : ∀ b, G b → G' b) : KidsAt G' W' l a :=
  KidsAt.mono (fun b o h => hb.cell (p := ⟨b, o, none⟩) (hB b h)) hn l a hx
theorem SlAt.below {G G' : Nat → Prop} {B : Nat} {W W' : World} {l : List T} {a : Option Addr} {cap : Nat} (hx : SlAt G W l a cap) (hb : Below B W W') (hB : ∀ b, G b → b < B) (hn : ∀ b, G b → G' b) : SlAt G' W' l a cap :=
  ⟨hx.1, hx.2.1, hx.2.2.below hb hB hn⟩
theorem TyAt.below {G G' : Nat → Prop} {B : Nat} {W W' : World} {t : T} {a : Option Addr} {cap : Nat} (hx : TyAt G W t a cap) (hb : Below B W W') (hB : ∀ b, G b → b < B) (hn : ∀ b, G b → G' b) : TyAt G' W' t a cap :=
  ⟨hx.1, hx.2.1, hx.2.2.below hb hB hn⟩
theorem NodeAt.ty {G : Nat → Prop} {W : World} {t : T} {b o : Nat} (h : NodeAt G W t b o) : ∃ a cap, TyAt G W t a cap ∧ W.cell? ⟨b, o, none⟩ = some (.int .i64 t.kind) ∧ W.cell? ⟨b, o + 1, none⟩ = some (.int .i64 t.num) ∧ W.cell? ⟨b, o + 2, none⟩ = some (.slice a t.kids.length cap) := by
  cases t with
  | mk k n l =>
    simp only [NodeAt] at h
    obtain ⟨h1, h2, h3, h4, a, cap, h5, h6, h7, h8⟩ := h
    exact ⟨a, cap, ⟨h1, h2, h6, h7, h8⟩, h3, h4, h5⟩
theorem NodeAt.mk' {G : Nat → Prop} {W : World} {t : T} {b o : Nat} {a : Option Addr} {cap : Nat} (h : TyAt G W t a cap) (h0 : W.cell? ⟨b, o, none⟩ = some (.int .i64 t.kind)) (h1 : W.cell? ⟨b, o + 1, none⟩ = some (.int .i64 t.num))
    (h2 : W.cell? ⟨b, o + 2, none⟩ = some (.slice a t.kids.length cap)) : NodeAt G W t b o := by
  cases t with
  | mk k n l => simp only [NodeAt]; exact ⟨h.1, h.2.1, h0, h1, a, cap, h2, h.2.2.1, h.2.2.2.1, h.2.2.2.2⟩
/-- The i-th of the kids. -/
theorem KidsAt.nodes {G : Nat → Prop} {W : World} : ∀ (l : List T) (b o : Nat), KidsAt G W l (some ⟨b, o, none⟩) → ∀ i (h : i < l.length), NodeAt G W l[i] b (o + i * 3)
  | [], _, _, _, i, h => by simp at h
  | t :: r, b, o, hx, i, h => by
    simp only [KidsAt] at hx
    obtain ⟨b', o', h1, h2, h3, h4⟩ := hx
    injection h1 with h1
    injection h1 with h1 h1' h1''
    subst h1 h1'
    cases i with
    | zero => rw [Nat.zero_mul, Nat.add_zero]; exact h3
    | succ j =>
      have := KidsAt.nodes r b (o + 3) h4 j (by simpa using h)
      rw [show o + 3 + j * 3 = o + (j + 1) * 3 from by omega] at this
      exact this
theorem KidsAt.first {G : Nat → Prop} {W : World} {l : List T} {a : Option Addr} (h : KidsAt G W l a) (hl : 0 < l.length) : ∃ b o, a = some ⟨b, o, none⟩ ∧ G b ∧ ∀ i (h : i < l.length), NodeAt G W l[i] b (o + i * 3) := by
  cases l with
  | nil => simp at hl
  | cons t r =>
    have h' := h
    simp only [KidsAt] at h
    obtain ⟨b, o, h1, h2, h3, h4⟩ := h
    subst h1
    exact ⟨b, o, rfl, h2, KidsAt.nodes (t :: r) b o h'⟩
theorem KidsAt.of_nodes {G : Nat → Prop} {W : World} {b : Nat} (hb : G b) : ∀ (l : List T) (o : Nat), (∀ i (h : i < l.length), NodeAt G W l[i] b (o + i * 3)) → KidsAt G W l (some ⟨b, o, none⟩)
  | [], _, _ => by simp [KidsAt]
  | t :: r, o, h => by
    simp only [KidsAt]
    refine ⟨b, o, rfl, hb, by have := h 0 (Nat.succ_pos _); rw [Nat.zero_mul, Nat.add_zero] at this; exact this, KidsAt.of_nodes hb r (o + 3) (fun i hi => ?_)⟩
    have := h (i + 1) (by simpa using hi)
    rw [show o + (i + 1) * 3 = o + 3 + i * 3 from by omega] at this
    exact this
theorem KidsAt.tail {G : Nat → Prop} {W : World} {t : T} {r : List T} {b o : Nat} (h : KidsAt G W (t :: r) (some ⟨b, o, none⟩)) : KidsAt G W r (some ⟨b, o + 3, none⟩) := by
  simp only [KidsAt] at h
  obtain ⟨b', o', h1, h2, h3, h4⟩ := h
  injection h1 with h1
  injection h1 with h1 h1' h1''
  subst h1 h1'
  exact h4
/-- What a walk reads of the first of a row. -/
theorem KidsAt.head {G : Nat → Prop} {W : World} {t : T} {r : List T} {a : Option Addr} (h : KidsAt G W (t :: r) a) : ∃ b o, a = some ⟨b, o, none⟩ ∧ G b ∧ NodeAt G W t b o ∧ KidsAt G W r (some ⟨b, o + 3, none⟩) := by
  simpa only [KidsAt] using h
end Go.Proofs.YtmmhpibkjdlkgaaGreat
namespace Go.Proofs.YtmmhpibkjdlkgaaGreat
open Go Go.RowKit
open Tp (T)

theorem ret_boolT {a b : Bool} (h : a = b) : Ending.returned (.bool a) = .returned (.bool b) := by rw [h]
theorem right_iff (k n : Int) (m : Nat) : Tp.nodeRight k n m = true ↔ ((k = 1 ∨ k = 2 ∨ k = 3 ∨ k = 4 ∨ k = 5) ∧ n = 0 ∧ m = 0) ∨ (k = 6 ∧ 0 ≤ n ∧ n ≤ 1048576 ∧ m = 0) ∨ ((k = 7 ∨ k = 9) ∧ n = 0 ∧ m = 2) ∨ (k = 8 ∧ n = 0 ∧ m = 1) := by
  simp only [Tp.nodeRight, Tp.arity, Bool.and_eq_true, Bool.or_eq_true, decide_eq_true_eq]
  (repeat' split) <;> simp only [decide_eq_true_eq] <;> omega

set_option maxHeartbeats 1000000 in
theorem right_any (t : T) (a : Option Addr) (cap : Nat) (w : World) (hl : t.kids.length ≤ maxLen) :
    Calls Tryz.prog 131 #[tv t a cap] w fun e w' => e = .returned (.bool (Tp.nodeRight t.kind t.num t.kids.length)) ∧ Below w.heap.size w w' := by
  unfold tv
  obtain ⟨k, hk⟩ : ∃ k, t.kind = k := ⟨_, rfl⟩
  obtain ⟨n, hn⟩ : ∃ n, t.num = n := ⟨_, rfl⟩
  obtain ⟨m, hm⟩ : ∃ m, t.kids.length = m := ⟨_, rfl⟩
  rw [hk, hn, hm]; rw [hm] at hl; clear hk hn hm
  unfold maxLen at hl; have hl0 := hl; clear hl0
  go_enter Tryz.func131, Tryz.ntmps131
  go_wp2
  all_goals go_ret
  all_goals refine ⟨ret_boolT ?_, (Below.refl _ _).alloc (Nat.le_refl _) _⟩
  all_goals (rw [Bool.eq_iff_iff, right_iff]; simp only [beq_iff_eq, beq_eq_false_iff_ne, reduceCtorEq, false_iff] at *; omega)

set_option maxHeartbeats 1000000 in
theorem alike_any (t u : T) (a : Option Addr) (cap : Nat) (a' : Option Addr) (cap' : Nat) (w : World) (hl : t.kids.length ≤ maxLen) (hl' : u.kids.length ≤ maxLen) :
    Calls Tryz.prog 125 #[tv t a cap, tv u a' cap'] w fun e w' => e = .returned (.bool (decide (t.kind = u.kind) && decide (t.num = u.num) && decide (t.kids.length = u.kids.length))) ∧ Below w.heap.size w w' := by
  unfold tv
  obtain ⟨k, hk⟩ : ∃ k, t.kind = k := ⟨_, rfl⟩
  obtain ⟨n, hn⟩ : ∃ n, t.num = n := ⟨_, rfl⟩
  obtain ⟨m, hm⟩ : ∃ m, t.kids.length = m := ⟨_, rfl⟩
  obtain ⟨k', hk'⟩ : ∃ k, u.kind = k := ⟨_, rfl⟩
  obtain ⟨n', hn'⟩ : ∃ n, u.num = n := ⟨_, rfl⟩
  obtain ⟨m', hm'⟩ : ∃ m, u.kids.length = m := ⟨_, rfl⟩
  rw [hk, hn, hm, hk', hn', hm']; rw [hm] at hl; rw [hm'] at hl'; clear hk hn hm hk' hn' hm'
  unfold maxLen at hl hl'; have hl0 := And.intro hl hl'; clear hl0
  go_enter Tryz.func125, Tryz.ntmps125
  go_wp2
  all_goals go_ret
  all_goals refine ⟨ret_boolT ?_, ((Below.refl _ _).alloc (Nat.le_refl _) _).alloc (by simp) _⟩
  all_goals (rw [Bool.eq_iff_iff]; simp only [Bool.and_eq_true, beq_iff_eq, decide_eq_true_eq, reduceCtorEq, false_iff] at *; omega)
end Go.Proofs.YtmmhpibkjdlkgaaGreat
namespace Go.Proofs.YtmmhpibkjdlkgaaGreat
open Go Go.RowKit

/-- From A to B blocks of M alone have turned, and new ones have come. -/
structure Turns (M : Nat → Prop) (A B : World) : Prop where
  os : B.os = A.os
  tape : B.tape = A.tape
  output : B.output = A.output
  size : A.heap.size ≤ B.heap.size
  block : ∀ k, k < A.heap.size → ¬ M k → B.heap[k]? = A.heap[k]?
theorem Turns.refl (M : Nat → Prop) (A : World) : Turns M A A := ⟨rfl, rfl, rfl, Nat.le_refl _, fun _ _ _ => rfl⟩
theorem Turns.trans {M : Nat → Prop} {A B C : World} (h : Turns M A B) (k : Turns M B C) : Turns M A C :=
  ⟨k.os.trans h.os, k.tape.trans h.tape, k.output.trans h.output, Nat.le_trans h.size k.size, fun i hi hM => (k.block i (Nat.lt_of_lt_of_le hi h.size) hM).trans (h.block i hi hM)⟩
theorem Turns.mono {M M' : Nat → Prop} {A B : World} (h : Turns M A B) (hM : ∀ k, k < A.heap.size → M k → M' k) : Turns M' A B := ⟨h.os, h.tape, h.output, h.size, fun k hk hn => h.block k hk (fun x => hn (hM k hk x))⟩
theorem Turns.of_grown {M : Nat → Prop} {A B : World} {row : Option Nat} (h : A.grownBy B row) (hr : ∀ k, row = some k → M k) : Turns M A B := ⟨h.os, h.tape, h.output, h.size, fun k hk hM => h.block k hk (fun e => hM (hr k e.symm))⟩
theorem Turns.alloc (M : Nat → Prop) (A : World) (o : Obj) : Turns M A (A.alloc o) := .of_grown (World.grownBy_alloc A o none) (by simp)
theorem Turns.drew (M : Nat → Prop) (A : World) : Turns M A A.drew := ⟨rfl, rfl, rfl, Nat.le_refl _, fun _ _ _ => rfl⟩
theorem Turns.setCell {M : Nat → Prop} (A : World) (p : Addr) (v : Value) (h : M p.block) : Turns M A (A.setCell p v) :=
  ⟨rfl, rfl, rfl, by simp [World.setCell], fun k _ hM => Below.heap_setCell _ _ _ k (fun e => hM (by rw [e]; exact h))⟩
theorem Turns.putObj {M : Nat → Prop} (A : World) (l : Nat) (o : Obj) (h : M l) : Turns M A (A.putObj l o) := .of_grown (grownBy_putObj' A l o) (fun k e => by cases e; exact h)
theorem Turns.below {M : Nat → Prop} {B : Nat} {V A C : World} (h : Turns M A C) (hb : Below B V A) (hM : ∀ k, M k → B ≤ k) (hB : B ≤ A.heap.size) : Below B V C :=
  hb.trans ⟨h.os, h.tape, h.output, h.size, fun k hk => h.block k (Nat.lt_of_lt_of_le hk hB) (fun x => by have := hM k x; omega)⟩
theorem Turns.heap {M : Nat → Prop} {A B : World} (h : Turns M A B) {k : Nat} {o : Obj} (hk : A.heap[k]? = some o) (hM : ¬ M k) : B.heap[k]? = some o := (h.block k (Array.getElem?_eq_some_iff.1 hk).1 hM).trans hk

/-- WHAT ABIDES A STEP OF WHOEVER OWNS M (blocks from base on): M may grow by new blocks. -/
def Ab (base : Nat) (p : (Nat → Prop) → World → Prop) : Prop :=
  ∀ (M M' : Nat → Prop) (A B : World), p M A → (∀ k, M k → base ≤ k ∧ k < A.heap.size) → Turns M A B → (∀ k, M' k → (M k ∨ A.heap.size ≤ k) ∧ k < B.heap.size) → p M' B
theorem Ab.and {base : Nat} {p q : (Nat → Prop) → World → Prop} (hp : Ab base p) (hq : Ab base q) : Ab base fun M W => p M W ∧ q M W := fun M M' A B h a b c => ⟨hp M M' A B h.1 a b c, hq M M' A B h.2 a b c⟩
theorem Ab.pure (base : Nat) (p : Prop) : Ab base fun _ _ => p := fun _ _ _ _ h _ _ _ => h
theorem Ab.ex {β : Type} {base : Nat} {p : β → (Nat → Prop) → World → Prop} (h : ∀ x, Ab base (p x)) : Ab base fun M W => ∃ x, p x M W := fun M M' A B ⟨x, hx⟩ a b c => ⟨x, h x M M' A B hx a b c⟩
/-- A block that is another's lies as it lay. -/
theorem Ab.block (base k : Nat) (o : Obj) : Ab base fun M W => W.heap[k]? = some o ∧ ¬ M k := fun M M' A B h _ hT hM => ⟨hT.heap h.1 h.2, fun x => by
  rcases (hM k x).1 with y | y
  · exact h.2 y
  · have := (Array.getElem?_eq_some_iff.1 h.1).1; omega⟩
theorem Ab.below {n₀ base : Nat} (hn : n₀ ≤ base) (V : World) (hV : n₀ ≤ V.heap.size) : Ab base fun _ W => Below n₀ V W := fun _ _ _ _ h hM hT _ => hT.below h (fun k x => Nat.le_trans hn (hM k x).1) (Nat.le_trans hV h.size)

/-- WHAT THE ITERATOR OWES. -/
def SeqMine {α : Type} (P : Program) (g : Nat) (lb : Array Value) (encs : α → Array Value) (S : List α → Prop) (ok : List α → α → Prop) (n₀ : Nat) (w : World) : Prop :=
  ∀ (l : Nat) (J Jx : (Nat → Prop) → List α → World → Prop) (W : World), Below w.heap.size w W → (∀ s, Ab W.heap.size fun M W' => J M s W') → (∀ s, Ab W.heap.size fun M W' => Jx M s W') →
    (∀ M pre x W1, J M pre W1 → (∀ k, M k → W.heap.size ≤ k ∧ k < W1.heap.size) → W.heap.size ≤ W1.heap.size → ok pre x → YieldAt Fence.wide 8 P l (encs x) W1 fun e W' =>
      (e = .returned (.bool true) ∧ J M (pre ++ [x]) W' ∧ Turns (fun k => n₀ ≤ k ∧ ¬ M k) W1 W') ∨ (e = .returned (.bool false) ∧ Jx M (pre ++ [x]) W' ∧ W1.heap.size ≤ W'.heap.size)) →
    J (fun _ => False) [] W →
    Calls P g (#[.func (.yield l) #[] #[]] ++ lb) W fun e W' => (∃ v, e = .returned v) ∧
      ((∃ M xs, S xs ∧ J M xs W' ∧ ∀ k, M k → W.heap.size ≤ k ∧ k < W'.heap.size) ∨ (∃ M pre, Jx M pre W' ∧ ∀ k, M k → W.heap.size ≤ k ∧ k < W'.heap.size))

/-- HOW THE BODY OF A ROUND MAY BE LEFT. -/
def minePost {α : Type} (n₀ : Nat) (M : Nat → Prop) (I : (Nat → Prop) → List α → World → Prop) (Ix : Code → (Nat → Prop) → List α → World → Prop) (xs : List α) (W : World) : Exit → Act → World → Prop
  | .normal, _, W' => Turns (fun k => n₀ ≤ k ∧ ¬ M k) W W' ∧ I M xs W'
  | .ret, _, W' => Turns (fun k => n₀ ≤ k ∧ ¬ M k) W W' ∧ Ix .ret M xs W'
  | .exit id, _, W' => Turns (fun k => n₀ ≤ k ∧ ¬ M k) W W' ∧ Ix (.exit id) M xs W'
  | .goto t, _, W' => Turns (fun k => n₀ ≤ k ∧ ¬ M k) W W' ∧ Ix (.goto t) M xs W'
  | .panic _, _, _ => False
  | .outgrown, _, _ => False

/-- **THE STATEMENT's LAW.** -/
theorem wpIn_range_mine {P : Program} {α : Type} {g : Operand} {ps : Array Tmp} {assign body : Code} {Q : Exit → Act → World → Prop} {a : Act} {w : World}
    {gf : Nat} {lb : Array Value} (hg : a.eval g = .func (.func gf) #[] lb) (eg : ∀ args w, (callFunc gf args).run P w = .ok (.enter gf args) w)
    {encs : α → Array Value} {S : List α → Prop} {ok : List α → α → Prop} {n₀ : Nat} {w0 : World} (hseq : SeqMine P gf lb encs S ok n₀ w0) (hb0 : Below w0.heap.size w0 w) (hn₀ : n₀ ≤ w.heap.size) (hps : ∀ x, (encs x).size = ps.size)
    (I : (Nat → Prop) → List α → World → Prop) (Ix : Code → (Nat → Prop) → List α → World → Prop) (Ax : α → Act → (Nat → Prop) → World → Prop)
    (hI : ∀ s, Ab w.heap.size fun M W => I M s W) (hIx : ∀ c s, Ab w.heap.size fun M W => Ix c M s W) (hAx : ∀ x a', Ab w.heap.size fun M W => Ax x a' M W) (h0 : I (fun _ => False) [] w)
    (hassign : ∀ (l : Nat) (M : Nat → Prop) (pre : List α) (x : α) (W : World) (K : Act → World → Prop), I M pre W → (∀ k, M k → w.heap.size ≤ k ∧ k < W.heap.size) → ok pre x →
      (∀ a' W', Turns (fun _ => False) W W' → Ax x a' M W' → K a' W') →
      assign.wpIn (Fence.wide.inRound l) 8 P (Exit.then K (fun _ _ _ => False)) { tmps := (ps.zip (encs x)).foldl (fun t (p, v) => t.setIfInBounds p v) a.tmps, defers := [] } W)
    (hbody : ∀ (l : Nat) (M : Nat → Prop) (pre : List α) (x : α) (a' : Act) (W : World), I M pre W → (∀ k, M k → w.heap.size ≤ k ∧ k < W.heap.size) → w.heap.size ≤ W.heap.size → ok pre x → Ax x a' M W →
      body.wpIn (Fence.wide.inRound l) 8 P (minePost n₀ M I Ix (pre ++ [x]) W) a' W)
    (hdone : ∀ (D : Nat) (M : Nat → Prop) (xs : List α) (W : World), w.heap.size ≤ D → S xs → I M xs W → W.heap[D]? = some (.deferred (some [])) → Q .normal { a with defers := { target := .collected D, args := #[] } :: a.defers } W)
    (hstop : ∀ (D : Nat) (M : Nat → Prop) (c : Code) (pre : List α) (W : World), w.heap.size ≤ D → Ix c M pre W → W.heap[D]? = some (.deferred (some [])) → c.wpIn Fence.wide 9 P Q { a with defers := { target := .collected D, args := #[] } :: a.defers } W) :
    (Code.rangeFunc g ps assign body).wpIn Fence.wide 9 P Q a w := by
  refine wpIn_rangeFunc ?_
  intro fn hfn
  rw [show Fence.wide.round = none from rfl]
  obtain ⟨rec, hrec⟩ : ∃ rec : LoopState → Option Code → Loop, rec = fun st pe => { state := st, pending := pe, fn, tmps := a.tmps, params := ps, assign, body, defers := w.heap.size } := ⟨_, rfl⟩
  obtain ⟨W1, hW1⟩ : ∃ W1, (w.alloc (.deferred (some []))).alloc (.loop (rec .ready none)) = W1 := ⟨_, rfl⟩
  have hsz : W1.heap.size = w.heap.size + 2 := by rw [← hW1]; simp
  have hL1 : W1.heap[w.heap.size + 1]? = some (.loop (rec .ready none)) := by
    rw [← hW1]; have := World.alloc_heap_new (w.alloc (.deferred (some []))) (.loop (rec .ready none)); rwa [World.size_alloc] at this
  have hK1 : W1.heap[w.heap.size]? = some (.deferred (some [])) := by
    rw [← hW1]; exact (Below.heap_alloc _ _ _ (by simp)).trans (World.alloc_heap_new w _)
  have hT1 : Turns (fun _ => False) w W1 := by rw [← hW1]; exact (Turns.alloc _ _ _).trans (Turns.alloc _ _ _)
  have hb1 : Below w0.heap.size w0 W1 := hT1.below hb0 (fun _ h => h.elim) hb0.size
  obtain ⟨plus, hplus⟩ : ∃ plus : (Nat → Prop) → Nat → Prop, plus = fun M k => M k ∨ k = w.heap.size ∨ k = w.heap.size + 1 := ⟨_, rfl⟩
  have pl : ∀ M k, plus M k ↔ (M k ∨ k = w.heap.size ∨ k = w.heap.size + 1) := fun M k => by rw [hplus]
  have hI1 : I (plus fun _ => False) [] W1 := hI [] _ _ w W1 h0 (fun _ h => h.elim) hT1 (fun k hk => by
    rcases (pl _ _).1 hk with h | h
    · exact h.elim
    · exact ⟨Or.inr (by omega), by omega⟩)
  refine ⟨w.heap.size + 1, [{ target := .collected w.heap.size, args := #[] }], W1, { target := .fn (.func gf) lb, args := #[.func (.yield (w.heap.size + 1)) #[] #[]] }, W1, gf,
    #[.func (.yield (w.heap.size + 1)) #[] #[]] ++ lb, W1, ?_, ?_, ?_, ?_, fun h => (by cases h), ?_⟩
  · rw [← hW1, hrec]; exact run_enterLoop_outer _ _ _ _ _
  · simp only [resolve, hg]
    simp [go_sem]
  · intro f' _; trivial
  · simp [invoke, go_sem, eg]
  · refine callsIn_wide.2 ?_
    -- the blocks of whoever owns M, the loop's two beside them
    have up : ∀ {M : Nat → Prop} {A : World}, (∀ k, M k → W1.heap.size ≤ k ∧ k < A.heap.size) → W1.heap.size ≤ A.heap.size → ∀ k, plus M k → w.heap.size ≤ k ∧ k < A.heap.size := fun h hA k hk => by
      rcases (pl _ _).1 hk with x | x
      · have := h k x; omega
      · omega
    have nL : ∀ {M : Nat → Prop} {A : World}, (∀ k, M k → W1.heap.size ≤ k ∧ k < A.heap.size) → ¬ M (w.heap.size + 1) := fun h x => by have := h _ x; omega
    have nD : ∀ {M : Nat → Prop} {A : World}, (∀ k, M k → W1.heap.size ≤ k ∧ k < A.heap.size) → ¬ M w.heap.size := fun h x => by have := h _ x; omega
    -- what abides M's steps abides them with the loop's two blocks beside
    have lift : ∀ {p : (Nat → Prop) → World → Prop}, Ab w.heap.size p → ∀ (M M' : Nat → Prop) (A B : World), p (plus M) A → W1.heap.size ≤ A.heap.size → (∀ k, M k → W1.heap.size ≤ k ∧ k < A.heap.size) → Turns (plus M) A B → (∀ k, M' k → (M k ∨ A.heap.size ≤ k) ∧ k < B.heap.size) → p (plus M') B :=
      fun hp M M' A B h hA hM hT hM' => hp _ _ A B h (up hM hA) hT (fun k hk => by
        have := hT.size
        rcases (pl _ _).1 hk with x | x
        · obtain ⟨y, z⟩ := hM' k x
          exact ⟨y.elim (fun y => .inl ((pl _ _).2 (.inl y))) .inr, z⟩
        · exact ⟨.inl ((pl _ _).2 (.inr x)), by omega⟩)
    refine (hseq (w.heap.size + 1)
      (fun M pre W => I (plus M) pre W ∧ W.heap[w.heap.size + 1]? = some (.loop (rec .ready none)) ∧ W.heap[w.heap.size]? = some (.deferred (some [])))
      (fun M pre W => ∃ c, Ix c (plus M) pre W ∧ W.heap[w.heap.size + 1]? = some (.loop (rec .done (some c))) ∧ W.heap[w.heap.size]? = some (.deferred (some [])))
      W1 hb1 ?_ ?_ ?_ ⟨hI1, hL1, hK1⟩).mono ?_
    · rintro s M M' A B ⟨hi, hl, hk⟩ hM hT hM'
      have hA : W1.heap.size ≤ A.heap.size := by have := (Array.getElem?_eq_some_iff.1 hl).1; omega
      exact ⟨lift (hI s) M M' A B hi hA hM (hT.mono fun k _ h => (pl _ _).2 (.inl h)) hM', hT.heap hl (nL hM), hT.heap hk (nD hM)⟩
    · rintro s M M' A B ⟨c, hi, hl, hk⟩ hM hT hM'
      have hA : W1.heap.size ≤ A.heap.size := by have := (Array.getElem?_eq_some_iff.1 hl).1; omega
      exact ⟨c, lift (hIx c s) M M' A B hi hA hM (hT.mono fun k _ h => (pl _ _).2 (.inl h)) hM', hT.heap hl (nL hM), hT.heap hk (nD hM)⟩
    · -- ONE ROUND
      rintro M pre x W ⟨hi, hl, hk⟩ hM hA hok
      have hy := run_yield (P := P) (args := encs x) hl (by rw [hrec]; exact hps x)
      rw [hrec] at hy
      refine ⟨fn, _, assign, body, hy, roundIn_of_wpIn hfn (hassign _ (plus M) pre x W _ hi (up hM hA) hok fun a' W' hT' hax => ?_)⟩
      have hl' : W'.heap[w.heap.size + 1]? = some (.loop (rec .ready none)) := hT'.heap hl (fun h => h)
      have hk' : W'.heap[w.heap.size]? = some (.deferred (some [])) := hT'.heap hk (fun h => h)
      have hA' : W1.heap.size ≤ W'.heap.size := Nat.le_trans hA hT'.size
      have hM1 : ∀ k, M k → W1.heap.size ≤ k ∧ k < W'.heap.size := fun k h => ⟨(hM k h).1, Nat.lt_of_lt_of_le (hM k h).2 hT'.size⟩
      refine ⟨_, run_beginRound hl' (by rw [hrec]), ?_⟩
      obtain ⟨W2, hW2⟩ : ∃ W2, W'.putObj (w.heap.size + 1) (.loop { rec .ready none with state := .busy }) = W2 := ⟨_, rfl⟩
      have hlt' : w.heap.size + 1 < W'.heap.size := by omega
      have hs2 : W2.heap.size = W'.heap.size := by rw [← hW2]; simp
      have hl2 : W2.heap[w.heap.size + 1]? = some (.loop { rec .ready none with state := .busy }) := by rw [← hW2]; exact World.putObj_heap_same hlt'
      have hk2 : W2.heap[w.heap.size]? = some (.deferred (some [])) := by rw [← hW2]; exact (World.putObj_heap_other (by omega)).trans hk'
      have hT2 : Turns (plus M) W' W2 := by rw [← hW2]; exact Turns.putObj _ _ _ ((pl _ _).2 (.inr (.inr rfl)))
      rw [hW2]
      have hi2 : I (plus M) pre W2 := lift (hI pre) M M W W2 hi hA hM ((hT'.mono fun _ _ h => h.elim).trans hT2) (fun k h => ⟨.inl h, by have := (hM1 k h).2; omega⟩)
      have hax2 : Ax x a' (plus M) W2 := lift (hAx x a') M M W' W2 hax hA' hM1 hT2 (fun k h => ⟨.inl h, by have := (hM1 k h).2; omega⟩)
      refine wpIn_mono (hbody _ (plus M) pre x a' W2 hi2 (up (fun k h => ⟨(hM1 k h).1, by rw [hs2]; exact (hM1 k h).2⟩) (by omega)) (by omega) hok hax2) ?_
      have hTW : Turns (fun k => n₀ ≤ k ∧ ¬ M k) W W2 := (hT'.mono fun _ _ h => h.elim).trans (by rw [← hW2]; exact Turns.putObj _ _ _ ⟨by omega, nL hM⟩)
      have fin : ∀ (jump : Option Code) (W3 : World), Turns (fun k => n₀ ≤ k ∧ ¬ plus M k) W2 W3 → ∃ W4,
          (Instr.endRound (w.heap.size + 1) jump).run P W3 = .ok (.bool jump.isNone) W4 ∧ W4.heap[w.heap.size + 1]? = some (.loop (rec (if jump.isNone then .ready else .done) jump)) ∧
          W4.heap[w.heap.size]? = some (.deferred (some [])) ∧ Turns (plus M) W3 W4 ∧ Turns (fun k => n₀ ≤ k ∧ ¬ M k) W W4 ∧ W4.heap.size = W3.heap.size := fun jump W3 hk3 => by
        have hl3 := hk3.heap hl2 (fun h => h.2 ((pl _ _).2 (.inr (.inr rfl))))
        have hd3 := hk3.heap hk2 (fun h => h.2 ((pl _ _).2 (.inr (.inl rfl))))
        have := run_endRound (P := P) jump hl3
        refine ⟨_, this, ?_, ?_, ?_, ?_, by simp⟩
        · rw [hrec]; exact World.putObj_heap_same (Array.getElem?_eq_some_iff.1 hl3).1
        · exact (World.putObj_heap_other (by omega)).trans hd3
        · exact Turns.putObj _ _ _ ((pl _ _).2 (.inr (.inr rfl)))
        · exact (hTW.trans (hk3.mono fun k _ h => ⟨h.1, fun m => h.2 ((pl _ _).2 (.inl m))⟩)).trans (Turns.putObj _ _ _ ⟨by omega, nL hM⟩)
      have hM3 : ∀ {W3 : World}, W2.heap.size ≤ W3.heap.size → ∀ k, M k → W1.heap.size ≤ k ∧ k < W3.heap.size := fun h k m => by have := hM1 k m; omega
      rintro e a3 W3 hp
      cases e with
      | normal =>
        obtain ⟨hk3, hi3⟩ := hp
        obtain ⟨W4, hr, hl4, hk4, ht4, hT4, hs4⟩ := fin none W3 hk3
        have h3 := hM3 hk3.size
        have h23 := hk3.size
        exact ⟨_, _, hr, .inl ⟨rfl, ⟨lift (hI _) M M W3 W4 hi3 (by omega) h3 ht4 (fun k h => ⟨.inl h, by rw [hs4]; exact (h3 k h).2⟩), hl4, hk4⟩, hT4⟩⟩
      | ret =>
        obtain ⟨hk3, hi3⟩ := hp
        obtain ⟨W4, hr, hl4, hk4, ht4, hT4, hs4⟩ := fin (some .ret) W3 hk3
        have h3 := hM3 hk3.size
        have h23 := hk3.size
        exact ⟨_, _, hr, .inr ⟨rfl, ⟨.ret, lift (hIx _ _) M M W3 W4 hi3 (by omega) h3 ht4 (fun k h => ⟨.inl h, by rw [hs4]; exact (h3 k h).2⟩), hl4, hk4⟩, hT4.size⟩⟩
      | exit id =>
        obtain ⟨hk3, hi3⟩ := hp
        obtain ⟨W4, hr, hl4, hk4, ht4, hT4, hs4⟩ := fin (some (.exit id)) W3 hk3
        have h3 := hM3 hk3.size
        have h23 := hk3.size
        exact ⟨_, _, hr, .inr ⟨rfl, ⟨.exit id, lift (hIx _ _) M M W3 W4 hi3 (by omega) h3 ht4 (fun k h => ⟨.inl h, by rw [hs4]; exact (h3 k h).2⟩), hl4, hk4⟩, hT4.size⟩⟩
      | goto t =>
        obtain ⟨hk3, hi3⟩ := hp
        obtain ⟨W4, hr, hl4, hk4, ht4, hT4, hs4⟩ := fin (some (.goto t)) W3 hk3
        have h3 := hM3 hk3.size
        have h23 := hk3.size
        exact ⟨_, _, hr, .inr ⟨rfl, ⟨.goto t, lift (hIx _ _) M M W3 W4 hi3 (by omega) h3 ht4 (fun k h => ⟨.inl h, by rw [hs4]; exact (h3 k h).2⟩), hl4, hk4⟩, hT4.size⟩⟩
      | panic ch => exact hp.elim
      | outgrown => exact hp.elim
    · -- BEHIND THE ITERATOR
      have last : ∀ {p : (Nat → Prop) → World → Prop}, Ab w.heap.size p → ∀ (M : Nat → Prop) (W2 : World) (o : Obj), p (plus M) W2 → W1.heap.size ≤ W2.heap.size → (∀ k, M k → W1.heap.size ≤ k ∧ k < W2.heap.size) → p (plus M) (W2.putObj (w.heap.size + 1) o) := fun hp M W2 o h hA hM =>
        lift hp M M W2 _ h hA hM (Turns.putObj _ _ _ ((pl _ _).2 (.inr (.inr rfl)))) (fun k m => ⟨.inl m, by rw [World.putObj_size]; exact (hM k m).2⟩)
      rintro e W2 ⟨⟨v, rfl⟩, (⟨M, xs, hS, ⟨hi, hl, hk⟩, hM⟩ | ⟨M, pre, ⟨c, hi, hl, hk⟩, hM⟩)⟩
      · have hA : W1.heap.size ≤ W2.heap.size := by have := (Array.getElem?_eq_some_iff.1 hl).1; omega
        exact ⟨none, _, by have := run_endLoop (P := P) hl (by rw [hrec]; simp); rw [hrec] at this; exact this, hdone _ _ xs _ (Nat.le_refl _) hS (last (hI xs) M W2 _ hi hA hM) ((World.putObj_heap_other (by omega)).trans hk)⟩
      · have hA : W1.heap.size ≤ W2.heap.size := by have := (Array.getElem?_eq_some_iff.1 hl).1; omega
        exact ⟨some c, _, by have := run_endLoop (P := P) hl (by rw [hrec]; simp); rw [hrec] at this; exact this, hstop _ _ c pre _ (Nat.le_refl _) (last (hIx c pre) M W2 _ hi hA hM) ((World.putObj_heap_other (by omega)).trans hk)⟩
end Go.Proofs.YtmmhpibkjdlkgaaGreat
namespace Go.Proofs.YtmmhpibkjdlkgaaGreat
open Go Go.RowKit Go.Shelf
open Tp (T)

attribute [local go_sem] Oper.semAt_some

/-- What lies on the stack: types of one depth, one at least. -/
structure Ent where
  ts : List T
  a : Option Addr
  cap : Nat
  d : Nat
def entCells (e : Ent) : List Value := [.slice e.a e.ts.length e.cap, .int .i64 (e.d : Int)]
def stCells (S : List Ent) : List Value := S.flatMap entCells
/-- What is still to come, of a stack whose top is the first. -/
def todo (R : List Ent) : List (T × Nat) := R.flatMap fun e => Tp.pres e.ts e.d
theorem stCells_length : ∀ S : List Ent, (stCells S).length = S.length * 2
  | [] => rfl
  | e :: r => by
    have := stCells_length r
    simp only [stCells, List.flatMap_cons, List.length_append, List.length_cons, entCells, List.length_nil] at this ⊢
    omega
theorem stCells_snoc (S : List Ent) (e : Ent) : stCells (S ++ [e]) = stCells S ++ entCells e := by simp [stCells]

theorem elem_st : Tryz.prog.underlying 167 = some (.slice (Tryz.prog.elem 167)) := by kernel_rfl
theorem size_st (w : World) : (sizeOf (Tryz.prog.elem 167)).run Tryz.prog w = .ok 2 w := by kernel_rfl
theorem info_st : (Tryz.prog.info? 166).map (fun i => (i.zero, i.size, i.bytes)) = some (some (.agg #[.slice none 0 0, .int .i64 0]), 2, 32) := by kernel_rfl
theorem elem_ty : Tryz.prog.underlying 24 = some (.slice (Tryz.prog.elem 24)) := by kernel_rfl
theorem size_ty (w : World) : (sizeOf (Tryz.prog.elem 24)).run Tryz.prog w = .ok 3 w := by kernel_rfl

theorem add_flat (g o j : Nat) : ((⟨g, o, none⟩ : Addr).add j) = ⟨g, o + j, none⟩ := by unfold Addr.add; split <;> simp_all
/-- 'open[:top]': the stack without its top. -/
theorem st_pop (g n cap k : Nat) (hk : k ≤ n) (hn : n ≤ cap) (w' : World) :
    (Instr.slice 167 (.slice (some ⟨g, 0, none⟩) n cap) none (some (.int .i64 (k : Int))) none).run Tryz.prog w' = .ok (.slice (some ⟨g, 0, none⟩) k cap) w' := by
  rw [run_slice_h w' _ _ n cap elem_st .i64 (k : Int) (by omega) (by omega), size_st]
  simp [Result.andThen, sliced, add_flat]
/-- 'list[1:]', where two are left at least. -/
theorem list_tail (b o n cap : Nat) (hn : 1 < n) (hc : n ≤ cap) (w' : World) :
    (Instr.slice 24 (.slice (some ⟨b, o, none⟩) n cap) (some (.int .i64 1)) none none).run Tryz.prog w' = .ok (.slice (some ⟨b, o + 3, none⟩) (n - 1) (cap - 1)) w' := by
  have h := run_slice_l w' 24 (some ⟨b, o, none⟩) n cap elem_ty .i64 1 (by omega) (by omega)
  rw [h, size_ty]
  simp [Result.andThen, sliced, add_flat]
  omega
theorem own_take {w : World} {base : Nat} {e : TypeId} {size n k g cap : Nat} {xs ys : List Value} (h : w.ownsRow base e size (.slice (some ⟨g, 0, none⟩) n cap) n (xs ++ ys)) (hk : k ≤ n) (hx : xs.length = k * size) :
    w.ownsRow base e size (.slice (some ⟨g, 0, none⟩) k cap) k xs := by
  obtain ⟨h1, h2 | ⟨g', cap', cur, h3, h4, h5, h6, h7, h8, h9⟩⟩ := h
  · cases h2.1
  · injection h3 with e1 e2 e3
    injection e1 with e1
    injection e1 with e1 e4 e5
    subst e1 e3
    refine ⟨hx, .inr ⟨g, cap, cur, rfl, h4, h5, by omega, h7, h8, ?_⟩⟩
    have := congrArg (List.take (k * size)) h9
    rw [List.take_take, Nat.min_eq_left (Nat.mul_le_mul_right _ hk), List.take_append_of_le_length (by omega), ← hx, List.take_length] at this
    rw [← hx]; exact this
theorem own_shapeT {w : World} {B sz : Nat} {e : TypeId} {v : Value} {n : Nat} {xs : List Value} (h : w.ownsRow B e sz v n xs) : ∃ a cap, v = .slice a n cap := by
  rcases h.2 with ⟨h1, h2⟩ | ⟨g, cap, cur, h1, _⟩
  · exact ⟨none, 0, by rw [h1, h2]⟩
  · exact ⟨some ⟨g, 0, none⟩, cap, h1⟩
theorem own_same {w w' : World} {B sz : Nat} {e : TypeId} {v : Value} {n : Nat} {xs : List Value} (h : w.ownsRow B e sz v n xs) (hs : ∀ g, v.ownBlock = some g → w'.heap[g]? = w.heap[g]?) : w'.ownsRow B e sz v n xs := by
  obtain ⟨h1, h2 | ⟨g, cap, cur, h3, h4, h5, h6⟩⟩ := h
  · exact ⟨h1, .inl h2⟩
  · exact ⟨h1, .inr ⟨g, cap, cur, h3, h4, (hs g (by rw [h3]; rfl)).trans h5, h6⟩⟩
/-- The top of the stack, and the stack without it. -/
theorem own_top {w : World} {base : Nat} {v : Value} {R : List Ent} {e : Ent} (h : w.ownsRow base 166 2 v (R.length + 1) (stCells (e :: R).reverse)) :
    ∃ g cap, v = .slice (some ⟨g, 0, none⟩) (R.length + 1) cap ∧ base ≤ g ∧ g < w.heap.size ∧ R.length + 1 ≤ cap ∧ cap ≤ maxLen ∧ w.cell? ⟨g, R.length * 2, none⟩ = some (.slice e.a e.ts.length e.cap) ∧
      w.cell? ⟨g, R.length * 2 + 1, none⟩ = some (.int .i64 (e.d : Int)) ∧ w.ownsRow base 166 2 (.slice (some ⟨g, 0, none⟩) R.length cap) R.length (stCells R.reverse) := by
  rw [List.reverse_cons, stCells_snoc] at h
  obtain ⟨h1, h2 | ⟨g, cap, cur, h3, h4, h5, h6, h7, h8, h9⟩⟩ := id h
  · omega
  · subst h3
    have hlen := stCells_length R.reverse
    rw [List.length_reverse] at hlen
    have hc := h.cells (g := g) rfl
    refine ⟨g, cap, rfl, h4, (Array.getElem?_eq_some_iff.1 h5).1, h6, h7, ?_, ?_, own_take h (Nat.le_succ _) hlen⟩
    · have := hc (R.length * 2) (.slice e.a e.ts.length e.cap) (by rw [← hlen, List.getElem?_append_right (Nat.le_refl _), Nat.sub_self]; rfl)
      rwa [add_flat, Nat.zero_add] at this
    · have := hc (R.length * 2 + 1) (.int .i64 (e.d : Int)) (by rw [← hlen, List.getElem?_append_right (by omega), Nat.add_sub_cancel_left]; rfl)
      rwa [add_flat, Nat.zero_add] at this

/-- A node as it is handed to a round. -/
structure Nd where
  t : T
  d : Nat
  a : Option Addr
  cap : Nat
def Nd.key (x : Nd) : T × Nat := (x.t, x.d)
def ndEnc (x : Nd) : Array Value := #[tv x.t x.a x.cap, .int .i64 (x.d : Int)]
def ndAll (t : T) (xs : List Nd) : Prop := xs.map Nd.key = Tp.pre t 1
def ndOk (t : T) (pre : List Nd) (x : Nd) : Prop := (∃ rest, pre.map Nd.key ++ x.key :: rest = Tp.pre t 1) ∧ I64 x.t.kind ∧ I64 x.t.num ∧ x.t.kids.length ≤ maxLen ∧ x.d ≤ 20000

/-- An entry as it lies in memory. -/
def Ent.good (G : Nat → Prop) (w : World) (t : T) (e : Ent) : Prop := e.ts ≠ [] ∧ SlAt G w e.ts e.a e.cap ∧ e.d + Tp.sizes e.ts ≤ Tp.size t + 1
/-- What the stack is between two rounds: 'G' the blocks whose cells nobody turns. -/
structure Stk (G : Nat → Prop) (t : T) (base : Nat) (M : Nat → Prop) (R : List Ent) (pre : List Nd) (v : Value) (w : World) : Prop where
  own : w.ownsRow base 166 2 v R.length (stCells R.reverse)
  mine : ∀ g, v.ownBlock = some g → M g
  each : ∀ e ∈ R, e.good G w t
  todo : pre.map Nd.key ++ todo R = Tp.pre t 1
theorem slat_same {G : Nat → Prop} {w w' : World} (hG : ∀ k, G k → w'.heap[k]? = w.heap[k]?) {l : List T} {a : Option Addr} {cap : Nat} (h : SlAt G w l a cap) : SlAt G w' l a cap :=
  ⟨h.1, h.2.1, KidsAt.mono (fun b o hb => World.cell?_of_block (a := ⟨b, o, none⟩) (hG b hb)) (fun _ h => h) l a h.2.2⟩
theorem good_tail {G : Nat → Prop} {w w' : World} (hG : ∀ k, G k → w'.heap[k]? = w.heap[k]?) {t x : T} {rs : List T} {b o cap d : Nat} (h : Ent.good G w t ⟨x :: rs, some ⟨b, o, none⟩, cap, d⟩) (hr : rs ≠ []) : Ent.good G w' t ⟨rs, some ⟨b, o + 3, none⟩, cap - 1, d⟩ := by
  obtain ⟨_, ⟨h1, h2, h3⟩, h4⟩ := h
  refine ⟨hr, slat_same hG ⟨?_, ?_, h3.tail⟩, ?_⟩
  · simp only [List.length_cons] at h1 ⊢; omega
  · dsimp only at h2 ⊢; omega
  · have := Tp.size_pos x; simp only [Tp.sizes] at h4 ⊢; omega
theorem good_kids {G : Nat → Prop} {w w' : World} (hG : ∀ k, G k → w'.heap[k]? = w.heap[k]?) {t x : T} {rs : List T} {ea xa : Option Addr} {cap xcap d : Nat} (h : Ent.good G w t ⟨x :: rs, ea, cap, d⟩) (hx : TyAt G w x xa xcap) (hr : x.kids ≠ []) : Ent.good G w' t ⟨x.kids, xa, xcap, d + 1⟩ := by
  obtain ⟨_, _, h4⟩ := h
  refine ⟨hr, slat_same hG hx.2.2, ?_⟩
  cases x with
  | mk k n l => simp only [Tp.sizes, Tp.size] at h4; simp only [T.kids, Tp.T.kids]; omega
theorem b32 {r : Nat} (h : r ≤ 10000) : (r + 1) * 32 ≤ 140737488355328 ∧ (r + 1 + 1) * 32 ≤ 140737488355328 ∧ r + 1 ≤ maxLen ∧ r + 1 + 1 ≤ maxLen := by unfold maxLen; omega
theorem push_turns {M : Nat → Prop} {A B C : World} {o : Obj} {row : Option Nat} (h : Turns M A B) (hg : (B.alloc o).grownBy C row) (hrow : ∀ k, row = some k → k < A.heap.size → M k) : Turns M A C := by
  have hs := h.size
  have hg' := hg.size
  rw [World.size_alloc] at hg'
  refine ⟨hg.os.trans h.os, hg.tape.trans h.tape, hg.output.trans h.output, by omega, fun k hk hM => ?_⟩
  rw [hg.block k (by rw [World.size_alloc]; omega) (fun e => hM (hrow k e.symm hk)), Below.heap_alloc _ _ _ (by omega)]
  exact h.block k hk hM
theorem push_same {G : Nat → Prop} {V B C : World} {o : Obj} {row : Option Nat} (h : ∀ k, G k → B.heap[k]? = V.heap[k]?) (hlt : ∀ k, G k → k < B.heap.size) (hg : (B.alloc o).grownBy C row) (hrow : ∀ k, row = some k → ¬ G k) : ∀ k, G k → C.heap[k]? = V.heap[k]? := fun k hk => by
  have := hlt k hk
  rw [hg.block k (by rw [World.size_alloc]; omega) (fun e => hrow k e.symm hk), Below.heap_alloc _ _ _ this]
  exact h k hk
theorem two_cells (a : Option Addr) (n c : Nat) (d : Int) : ∀ u ∈ [Value.slice a n c, .int .i64 d], u.oneCell' = true := by
  intro u hu
  simp only [List.mem_cons, List.not_mem_nil, or_false] at hu
  rcases hu with rfl | rfl <;> rfl
theorem good_same {G : Nat → Prop} {w w' : World} (hG : ∀ k, G k → w'.heap[k]? = w.heap[k]?) {t : T} {e : Ent} (h : e.good G w t) : e.good G w' t := ⟨h.1, slat_same hG h.2.1, h.2.2⟩
/-- append at an operation inside a fence; it tells where the row then lies. -/
theorem wpListIn_append_lies {F : Fence} {n' : Nat} {P : Program} (w : World) {ops : Array Oper} {rest : List Oper} {o : Oper} {a : Act} {Q : Exit → Act → World → Prop}
    (hgd : o.guard = none) (s x : Operand) (t : TypeId) (hop : o.op = Op.call { callee := Callee.builtin Builtin.append, args := #[s, x], argTypes := #[t, t] })
    (base : Nat) (e : TypeId) (i : TypeInfo) (z : Value) (size bytes : Nat) (ht : P.underlying t = some (.slice e)) (hi : P.info? e = some i) (hz : i.zero = some z)
    (hsize : i.size = size) (hby : i.bytes = bytes) (hzs : z.cells.size = size) (hsz : 0 < size)
    (v : Value) (n : Nat) (xs : List Value) (hs : a.eval s = v) (hown : w.ownsRow base e size v n xs)
    (ad : Addr) (m c : Nat) (news : List Value) (hx : a.eval x = .slice (some ad) m c) (hl : news.length = m * size) (hnews : ∀ j u, news[j]? = some u → w.cell? (ad.add j) = some u) (h1 : ∀ u ∈ news, u.oneCell' = true)
    (hm : 0 < m) (h63 : n + m ≤ maxLen) (hbytes : (n + m) * bytes ≤ 140737488355328) (hbase : base ≤ w.heap.size)
    (hK : ∀ g cap w', w'.ownsRow base e size (.slice (some ⟨g, 0, none⟩) (n + m) cap) (n + m) (xs ++ news) → w.grownBy w' v.ownBlock → (v.ownBlock = some g ∨ g = w.heap.size) → wpListIn F n' P ops Q rest (a.put o.dst (.slice (some ⟨g, 0, none⟩) (n + m) cap)) w') :
    wpListIn F n' P ops Q (o :: rest) a w := by
  refine wpListIn_plain hgd fun K hK' => ?_
  obtain ⟨g, cap, w', hrun, r1, r2, r3, _⟩ := run_append_lies (P := P) (w := w) t o.type base e i z size bytes ht hi hz hsize hby hzs hsz v n xs hown ad m c news hl hnews h1 hm h63 hbytes hbase w.heap.size rfl
  unfold Oper.wpIn
  refine ⟨?_, ?_⟩
  · simp [Oper.about, hop, resolve, Target.leads, Sem.run_pure]
  · rw [Oper.semAt_plain F _ _ (by rw [hop]; intro c hc'; cases hc')]
    simp [execOp, hop, resolve, invoke, builtin, hs, hx, hrun, Result.andThen]
    exact hK' _ _ (hK g cap w' r1 r2 r3)
theorem d_bound {d s n : Nat} (h : d + s ≤ n + 1) (hn : n ≤ 10000) : (d : Int) ≤ 10001 := by omega
theorem not_G {g n₀ B : Nat} (h : B + 1 ≤ g) (hn : n₀ ≤ B) : ¬ (g < n₀ ∨ g = B) := by omega
theorem lt_G {k n₀ B S : Nat} (hn : n₀ ≤ B) (hb : B + 1 ≤ S) (h : k < n₀ ∨ k = B) : k < S := by omega
theorem lies_at {g g1 n cap : Nat} {w : World} {o : Obj} (h : (Value.slice (some ⟨g, 0, none⟩) n cap).ownBlock = some g1 ∨ g1 = (w.alloc o).heap.size) : g1 = g ∨ w.heap.size ≤ g1 := by
  rcases h with h | h
  · injection h with h; exact .inl h.symm
  · rw [World.size_alloc] at h; omega
theorem undrew {A B : World} {row : Option Nat} (h : A.drew.grownBy B row) : A.grownBy B row := ⟨h.os, h.tape, h.output, h.size, h.block⟩
theorem lies_at' {g g1 n cap S : Nat} (h : (Value.slice (some ⟨g, 0, none⟩) n cap).ownBlock = some g1 ∨ g1 = S + 1) : g1 = g ∨ S ≤ g1 := by
  rcases h with h | h
  · injection h with h; exact .inl h.symm
  · omega
theorem far_block {A B : World} {o : Obj} {g k : Nat} (h : (A.alloc o).grownBy B (some g)) (hk : k < A.heap.size) (hne : k ≠ g) : B.heap[k]? = A.heap[k]? := by
  rw [h.block k (by rw [World.size_alloc]; omega) (fun e => hne (by injection e)), Below.heap_alloc _ _ _ hk]
theorem lies2 {g g1 g2 S S1 : Nat} (h : g2 = g1 ∨ S1 ≤ g2) (h1 : g1 = g ∨ S ≤ g1) (hS : S ≤ S1) : g2 = g ∨ S ≤ g2 := by omega
/-- BEHIND A ROUND. -/
theorem stk_next {G : Nat → Prop} {t x : T} {base ecap d xcap : Nat} {M M5 : Nat → Prop} {R E : List Ent} {pre : List Nd} {v v5 : Value} {wr W5 : World} {rs : List T} {ea xa : Option Addr}
    (h : Stk G t base M (⟨x :: rs, ea, ecap, d⟩ :: R) pre v wr) (hG : ∀ k, G k → W5.heap[k]? = wr.heap[k]?) (hE : ∀ e ∈ E, e.good G W5 t) (hT : todo E = Tp.pres x.kids (d + 1) ++ Tp.pres rs d)
    (hown : W5.ownsRow base 166 2 v5 (E ++ R).length (stCells (E ++ R).reverse)) (hm : ∀ g, v5.ownBlock = some g → M5 g) :
    Stk G t base M5 (E ++ R) (pre ++ [⟨x, d, xa, xcap⟩]) v5 W5 ∧ (todo (E ++ R)).length < (todo (⟨x :: rs, ea, ecap, d⟩ :: R)).length := by
  have e1 : todo (⟨x :: rs, ea, ecap, d⟩ :: R) = (x, d) :: todo (E ++ R) := by
    have : todo (E ++ R) = todo E ++ todo R := by simp [todo]
    rw [this, hT]
    cases x with
    | mk k n l => simp [todo, Tp.pres, Tp.pre, Tp.T.kids]
  refine ⟨⟨hown, hm, fun e he => ?_, ?_⟩, by rw [e1]; simp⟩
  · rcases List.mem_append.1 he with he | he
    · exact hE e he
    · have := h.each e (List.mem_cons_of_mem _ he)
      exact ⟨this.1, slat_same hG this.2.1, this.2.2⟩
  · have := h.todo
    rw [e1] at this
    rw [← this]; simp [Nd.key]
theorem todo_pos {R : List Ent} {G : Nat → Prop} {w : World} {t : T} (h : ∀ e ∈ R, e.good G w t) : R.length ≤ (todo R).length := by
  induction R with
  | nil => simp
  | cons e r ih =>
    have h1 := ih fun e he => h e (List.mem_cons_of_mem _ he)
    have h2 := (h e (by simp)).1
    have h3 : 0 < (Tp.pres e.ts e.d).length := by
      rw [Tp.pres_length]
      have := Tp.length_le_sizes e.ts
      have := List.length_pos_iff.2 h2
      omega
    simp only [todo, List.flatMap_cons, List.length_append, List.length_cons] at h1 ⊢
    omega
theorem Stk.len {G : Nat → Prop} {t : T} {base : Nat} {M : Nat → Prop} {R : List Ent} {pre : List Nd} {v : Value} {w : World} (h : Stk G t base M R pre v w) : R.length ≤ Tp.size t := by
  have h1 := todo_pos h.each
  have h2 := congrArg List.length h.todo
  rw [List.length_append, Tp.pre_length] at h2
  omega
theorem cell_lt {w : World} {a : Addr} {v : Value} (h : w.cell? a = some v) : a.block < w.heap.size := by
  unfold World.cell? at h
  cases hb : w.heap[a.block]? with
  | none => rw [hb] at h; cases h
  | some o => exact (Array.getElem?_eq_some_iff.1 hb).1
theorem box1 (w : World) (A B : Array Value) (s u : TypeId) : ((w.alloc (.cells A s)).alloc (.cells B u)).heap[w.heap.size]? = some (.cells A s) := (Below.heap_alloc _ _ _ (by simp)).trans (World.alloc_heap_new w _)
theorem box2 (w : World) (A B : Array Value) (s u : TypeId) : ((w.alloc (.cells A s)).alloc (.cells B u)).heap[w.heap.size + 1]? = some (.cells B u) := by
  have := World.alloc_heap_new (w.alloc (.cells A s)) (.cells B u); rwa [World.size_alloc] at this
theorem cell_box {w w' : World} {b i : Nat} {A : Array Value} {s : TypeId} {v : Value} (h : w.heap[b]? = some (.cells A s)) (hs : w'.heap[b]? = w.heap[b]?) (hv : A[i]? = some v) : w'.cell? ⟨b, i, none⟩ = some v := by
  simp [World.cell?, hs, h, hv]
/-- At the start: the type alone. -/
theorem stk_start {W : World} {t : T} {n₀ : Nat} {a0 : Option Addr} {cap0 : Nat} (hty : TyAt (LT n₀) W t a0 cap0) (hn : n₀ ≤ W.heap.size) :
    Stk (fun b => b < n₀ ∨ b = W.heap.size) t (W.heap.size + 1) (fun k => k = W.heap.size ∨ k = W.heap.size + 1) [⟨[t], some ⟨W.heap.size, 0, none⟩, 1, 1⟩] [] (.slice (some ⟨W.heap.size + 1, 0, none⟩) 1 1)
      ((W.alloc (.cells #[.int .i64 t.kind, .int .i64 t.num, .slice a0 t.kids.length cap0] 26)).alloc (.cells #[.slice (some ⟨W.heap.size, 0, none⟩) 1 1, .int .i64 1] 166)) := by
  obtain ⟨W2, hW2⟩ : ∃ W2, (W.alloc (.cells #[.int .i64 t.kind, .int .i64 t.num, .slice a0 t.kids.length cap0] 26)).alloc (.cells #[.slice (some ⟨W.heap.size, 0, none⟩) 1 1, .int .i64 1] 166) = W2 := ⟨_, rfl⟩
  have hb : Below W.heap.size W W2 := by rw [← hW2]; exact ((Below.refl _ _).alloc (Nat.le_refl _) _).alloc (by simp) _
  have hbx : W2.heap[W.heap.size]? = some (.cells #[.int .i64 t.kind, .int .i64 t.num, .slice a0 t.kids.length cap0] 26) := by rw [← hW2]; exact box1 _ _ _ _ _
  have hown : W2.ownsRow (W.heap.size + 1) 166 2 (.slice (some ⟨W.heap.size + 1, 0, none⟩) 1 1) 1 [.slice (some ⟨W.heap.size, 0, none⟩) 1 1, .int .i64 1] := by
    refine ⟨rfl, .inr ⟨W.heap.size + 1, 1, #[.slice (some ⟨W.heap.size, 0, none⟩) 1 1, .int .i64 1], rfl, Nat.le_refl _, ?_, Nat.le_refl _, by unfold maxLen; omega, rfl, rfl⟩⟩
    rw [← hW2]; exact box2 _ _ _ _ _
  rw [hW2]
  refine ⟨hown, fun g hg => by injection hg with hg; exact .inr hg.symm, fun e he => ?_, by simp [todo, Tp.pres]⟩
  obtain rfl := List.mem_singleton.1 he
  refine ⟨by simp, ⟨by simp, by unfold maxLen; simp, ?_⟩, by simp [Tp.sizes]; omega⟩
  refine KidsAt.of_nodes (.inr rfl) [t] 0 (fun i hi => ?_)
  obtain rfl : i = 0 := by simpa using hi
  exact NodeAt.mk' (hty.below hb (fun b h => Nat.lt_of_lt_of_le h hn) (fun b h => .inl h)) (cell_box hbx rfl rfl) (cell_box hbx rfl rfl) (cell_box hbx rfl rfl)
theorem todo_cons {x : T} {rs : List T} {ea : Option Addr} {ecap d : Nat} {R : List Ent} : todo (⟨x :: rs, ea, ecap, d⟩ :: R) = (x, d) :: (Tp.pres x.kids (d + 1) ++ Tp.pres rs d ++ todo R) := by
  cases x with
  | mk k n l => simp [todo, Tp.pres, Tp.pre, Tp.T.kids]
theorem nd_ok {G : Nat → Prop} {t x : T} {base ecap d xcap : Nat} {M : Nat → Prop} {R : List Ent} {pre : List Nd} {v : Value} {wr : World} {rs : List T} {ea xa : Option Addr} (h : Stk G t base M (⟨x :: rs, ea, ecap, d⟩ :: R) pre v wr)
    (hx : TyAt G wr x xa xcap) (ht : Tp.size t ≤ 10000) : ndOk t pre ⟨x, d, xa, xcap⟩ := by
  refine ⟨⟨_, by rw [← h.todo, todo_cons]; rfl⟩, hx.1, hx.2.1, Nat.le_trans hx.2.2.1 hx.2.2.2.1, ?_⟩
  have := (h.each _ (List.mem_cons_self ..)).2.2
  dsimp only at this ⊢
  omega
/-- BEHIND A ROUND, ALL OF IT. -/
theorem round_end {t x : T} {n₀ base ecap d xcap g : Nat} {M M' : Nat → Prop} {R E : List Ent} {pre : List Nd} {v v5 : Value} {W wr W3 W5 : World} {rs : List T} {ea xa : Option Addr} {J : (Nat → Prop) → List Nd → World → Prop}
    (hJ : ∀ s, Ab W.heap.size fun M W' => J M s W') (h : Stk (fun b => b < n₀ ∨ b = W.heap.size) t base M (⟨x :: rs, ea, ecap, d⟩ :: R) pre v wr) (hJ3 : J M' (pre ++ [⟨x, d, xa, xcap⟩]) W3) (hM' : ∀ k, M' k → W.heap.size ≤ k ∧ k < W3.heap.size) (hW3 : W.heap.size + 1 ≤ W3.heap.size) (hMB : M' W.heap.size) (hMg : M' g)
    (hT : Turns M' W3 W5) (hG : ∀ k, (k < n₀ ∨ k = W.heap.size) → W5.heap[k]? = wr.heap[k]?) (hE : ∀ e ∈ E, e.good (fun b => b < n₀ ∨ b = W.heap.size) W5 t) (hT' : todo E = Tp.pres x.kids (d + 1) ++ Tp.pres rs d)
    (hown : W5.ownsRow base 166 2 v5 (E ++ R).length (stCells (E ++ R).reverse)) (hy : ∀ y, v5.ownBlock = some y → y = g ∨ W3.heap.size ≤ y) :
    (todo (E ++ R)).length < (todo (⟨x :: rs, ea, ecap, d⟩ :: R)).length ∧ (∃ M R' pre', Stk (fun b => b < n₀ ∨ b = W.heap.size) t base M R' pre' v5 W5 ∧ J M pre' W5 ∧ (∀ k, M k → W.heap.size ≤ k ∧ k < W5.heap.size) ∧ M W.heap.size ∧ W.heap.size + 1 ≤ W5.heap.size ∧ (todo (E ++ R)).length = (todo R').length) := by
  have hs := hT.size
  obtain ⟨k1, k2⟩ := stk_next (M5 := fun k => (M' k ∨ W3.heap.size ≤ k) ∧ k < W5.heap.size) (xa := xa) (xcap := xcap) h hG hE hT' hown (fun y e => by
    have hl := hown.lt y e
    rcases hy y e with h | h
    · subst h; exact ⟨.inl hMg, hl.2⟩
    · exact ⟨.inr h, hl.2⟩)
  refine ⟨k2, _, _, _, k1, hJ _ M' _ W3 W5 hJ3 hM' hT (fun k hk => hk), fun k hk => ⟨?_, hk.2⟩, ⟨.inl hMB, by omega⟩, by omega, rfl⟩
  rcases hk.1 with h | h
  · exact (hM' k h).1
  · omega
end Go.Proofs.YtmmhpibkjdlkgaaGreat
