/- Plain facts on types as trees: sizes, depths, right ones, variables; the nodes in the order of the tree. Types that lie in memory: a node takes three cells, its kids a slice. Walks: typ.right, typ.alike; the page's Kids. A range over a function whose iterator keeps a stack of its own in memory: what the iterator owes, what the loop's body owes, and the statement's law. At the fence that asks nothing. -/
import Derived.Test.YteolbbgnkbcfmaaProg
import Derived.WalkKit
import Derived.Below
import Derived.WalkSpells
import Derived.WalkLawsBesides
import Derived.Lib.Hide
import Derived.RangeFuncNested
import Derived.RangeFuncBound
import Derived.RangeFuncCalls
import Derived.RangeFuncLeaves
import Derived.Shelf.Abstract
import Derived.Shelf.RegionOpen
import Derived.OwnWalkIn
import Derived.TacticsInMore
import Derived.LoopNIn
import Derived.LoopIn
import Derived.RangeFuncBox
namespace Go.Proofs.Yteolbbgnkbcfmaa.Tp
/-- A type: its kind, its number, its kids. -/
inductive T where
  | mk (k n : Int) (l : List T)
def T.kind : T → Int | .mk k _ _ => k
def T.num : T → Int | .mk _ n _ => n
def T.kids : T → List T | .mk _ _ l => l
mutual
def size : T → Nat | .mk _ _ l => sizes l + 1
def sizes : List T → Nat | [] => 0 | t :: r => size t + sizes r
end
mutual
def depth : T → Nat | .mk _ _ l => depths l + 1
def depths : List T → Nat | [] => 0 | t :: r => max (depth t) (depths r)
end
/-- How many kids a kind has; -1: it is none. -/
def arity (k : Int) : Int := if k = 1 ∨ k = 2 ∨ k = 3 ∨ k = 4 ∨ k = 5 ∨ k = 6 then 0 else if k = 8 then 1 else if k = 7 ∨ k = 9 then 2 else -1
/-- Is a node right, whatever its kids are? -/
def nodeRight (k n : Int) (len : Nat) : Bool := decide (arity k = len) && decide (0 ≤ n) && decide (n ≤ 1048576) && (decide (k = 6) || decide (n = 0))
mutual
def right : T → Bool | .mk k n l => nodeRight k n l.length && rights l
def rights : List T → Bool | [] => true | t :: r => right t && rights r
end
mutual
def without (x : Int) : T → Bool | .mk k _ l => !decide (k = x) && withouts x l
def withouts (x : Int) : List T → Bool | [] => true | t :: r => without x t && withouts x r
end
mutual
def same : T → T → Bool | .mk k n l, .mk k' n' l' => decide (k = k') && decide (n = n') && decide (l.length = l'.length) && sames l l'
def sames : List T → List T → Bool | a :: r, b :: s => same a b && sames r s | _, _ => true
end
/-- One variable more, if it is none that was told. -/
def addVar (k n : Int) (acc : List Int) : List Int := if k = 6 ∧ ¬ n ∈ acc then acc ++ [n] else acc
mutual
def vars : T → List Int → List Int | .mk k n l, acc => varss l (addVar k n acc)
def varss : List T → List Int → List Int | [], acc => acc | t :: r, acc => varss r (vars t acc)
end
mutual
/-- The nodes in the order of the tree, each with its depth. -/
def pre : T → Nat → List (T × Nat) | .mk k n l, d => (.mk k n l, d) :: pres l (d + 1)
def pres : List T → Nat → List (T × Nat) | [], _ => [] | t :: r, d => pre t d ++ pres r d
end

theorem size_pos : ∀ t : T, 0 < size t | .mk _ _ _ => by simp [size]
theorem sizes_append : ∀ l m : List T, sizes (l ++ m) = sizes l + sizes m
  | [], m => by simp [sizes]
  | t :: r, m => by simp [sizes, sizes_append r m]; omega
theorem length_le_sizes : ∀ l : List T, l.length ≤ sizes l
  | [] => by simp
  | t :: r => by have := size_pos t; have := length_le_sizes r; simp [sizes]; omega
mutual
theorem depth_le_size : ∀ t : T, depth t ≤ size t | .mk k n l => by have := depths_le_sizes l; simp [depth, size]; omega
theorem depths_le_sizes : ∀ l : List T, depths l ≤ sizes l
  | [] => by simp [depths]
  | t :: r => by have := depth_le_size t; have := depths_le_sizes r; simp [depths, sizes]; omega
end
mutual
theorem pre_length : ∀ (t : T) (d : Nat), (pre t d).length = size t | .mk k n l, d => by simp [pre, size, pres_length l]
theorem pres_length : ∀ (l : List T) (d : Nat), (pres l d).length = sizes l
  | [], _ => by simp [pres, sizes]
  | t :: r, d => by simp [pres, sizes, pre_length t, pres_length r]
end
/-- The greatest depth in a row of nodes. -/
def maxD : List (T × Nat) → Nat → Nat | [], m => m | x :: r, m => maxD r (max m x.2)
theorem maxD_append : ∀ (l m : List (T × Nat)) (x : Nat), maxD (l ++ m) x = maxD m (maxD l x)
  | [], _, _ => rfl
  | y :: r, m, x => by simp [maxD, maxD_append r m]
mutual
theorem pre_maxD : ∀ (t : T) (d m : Nat), maxD (pre t (d + 1)) m = max m (depth t + d)
  | .mk k n l, d, m => by
    simp only [pre, maxD, depth]
    rw [pres_maxD l (d + 1)]
    by_cases h : l = []
    · subst h; simp [depths]; omega
    · simp only [h, if_false]; omega
theorem pres_maxD : ∀ (l : List T) (d m : Nat), maxD (pres l (d + 1)) m = if l = [] then m else max m (depths l + d)
  | [], _, _ => by simp [pres, maxD]
  | t :: r, d, m => by
    simp only [pres, maxD_append, pre_maxD t d, pres_maxD r d, depths, reduceCtorEq, if_false]
    split
    · rename_i h; subst h; simp [depths]
    · omega
end
mutual
theorem pre_right : ∀ (t : T) (d : Nat), (pre t d).all (fun x => nodeRight x.1.kind x.1.num x.1.kids.length) = right t
  | .mk k n l, d => by simp only [pre, List.all_cons, right, pres_right l]; rfl
theorem pres_right : ∀ (l : List T) (d : Nat), (pres l d).all (fun x => nodeRight x.1.kind x.1.num x.1.kids.length) = rights l
  | [], _ => by simp [pres, rights]
  | t :: r, d => by simp only [pres, List.all_append, rights, pre_right t, pres_right r]
end
mutual
theorem pre_without (x : Int) : ∀ (t : T) (d : Nat), (pre t d).all (fun y => !decide (y.1.kind = x)) = without x t
  | .mk k n l, d => by simp only [pre, List.all_cons, without, pres_without x l]; rfl
theorem pres_without (x : Int) : ∀ (l : List T) (d : Nat), (pres l d).all (fun y => !decide (y.1.kind = x)) = withouts x l
  | [], _ => by simp [pres, withouts]
  | t :: r, d => by simp only [pres, List.all_append, withouts, pre_without x t, pres_without x r]
end
/-- The variables of a row of nodes. -/
def rowVars : List (T × Nat) → List Int → List Int | [], acc => acc | x :: r, acc => rowVars r (addVar x.1.kind x.1.num acc)
theorem rowVars_append : ∀ (l m : List (T × Nat)) (x : List Int), rowVars (l ++ m) x = rowVars m (rowVars l x)
  | [], _, _ => rfl
  | y :: r, m, x => by simp [rowVars, rowVars_append r m]
mutual
theorem pre_vars : ∀ (t : T) (d : Nat) (acc : List Int), rowVars (pre t d) acc = vars t acc
  | .mk k n l, d, acc => by simp only [pre, rowVars, vars, pres_vars l]; rfl
theorem pres_vars : ∀ (l : List T) (d : Nat) (acc : List Int), rowVars (pres l d) acc = varss l acc
  | [], _, _ => by simp [pres, rowVars, varss]
  | t :: r, d, acc => by simp only [pres, rowVars_append, varss, pre_vars t, pres_vars r]
end
mutual
theorem same_iff : ∀ a b : T, same a b = true ↔ a = b
  | .mk k n l, .mk k' n' l' => by
    simp only [same, Bool.and_eq_true, decide_eq_true_eq, T.mk.injEq]
    constructor
    · rintro ⟨⟨⟨h1, h2⟩, h3⟩, h4⟩; exact ⟨h1, h2, (sames_iff l l' h3).1 h4⟩
    · rintro ⟨h1, h2, h3⟩; subst h3; exact ⟨⟨⟨h1, h2⟩, rfl⟩, (sames_iff l l rfl).2 rfl⟩
theorem sames_iff : ∀ a b : List T, a.length = b.length → (sames a b = true ↔ a = b)
  | [], [], _ => by simp [sames]
  | a :: r, b :: s, h => by simp [sames, same_iff a b, sames_iff r s (by simpa using h)]
end
theorem same_refl (a : T) : same a a = true := (same_iff a a).2 rfl
theorem same_comm (a b : T) : same a b = same b a := by
  rw [Bool.eq_iff_iff, same_iff, same_iff]; exact eq_comm
end Go.Proofs.Yteolbbgnkbcfmaa.Tp
namespace Go.Proofs.Yteolbbgnkbcfmaa
open Go Go.RowKit
open Tp (T)

/-- The blocks below n. -/
def LT (n : Nat) : Nat → Prop := fun b => b < n
def I64 (x : Int) : Prop := -9223372036854775808 ≤ x ∧ x ≤ 9223372036854775807
mutual
/-- The cells from o on of block b are the type's. -/
def NodeAt (G : Nat → Prop) (W : World) : T → Nat → Nat → Prop
  | .mk k n l, b, o => I64 k ∧ I64 n ∧ W.cell? ⟨b, o, none⟩ = some (.int .i64 k) ∧ W.cell? ⟨b, o + 1, none⟩ = some (.int .i64 n) ∧
      ∃ a cap, W.cell? ⟨b, o + 2, none⟩ = some (.slice a l.length cap) ∧ l.length ≤ cap ∧ cap ≤ maxLen ∧ KidsAt G W l a
/-- A slice that begins at a holds these types, in blocks of G. -/
def KidsAt (G : Nat → Prop) (W : World) : List T → Option Addr → Prop
  | [], _ => True
  | t :: r, a => ∃ b o, a = some ⟨b, o, none⟩ ∧ G b ∧ NodeAt G W t b o ∧ KidsAt G W r (some ⟨b, o + 3, none⟩)
end
/-- The value of a slice that holds these types. -/
def SlAt (G : Nat → Prop) (W : World) (l : List T) (a : Option Addr) (cap : Nat) : Prop := l.length ≤ cap ∧ cap ≤ maxLen ∧ KidsAt G W l a
/-- The value of a type, by value. -/
def tv (t : T) (a : Option Addr) (cap : Nat) : Value := .agg #[.int .i64 t.kind, .int .i64 t.num, .slice a t.kids.length cap]
def TyAt (G : Nat → Prop) (W : World) (t : T) (a : Option Addr) (cap : Nat) : Prop := I64 t.kind ∧ I64 t.num ∧ SlAt G W t.kids a cap

mutual
theorem NodeAt.mono {G G' : Nat → Prop} {W W' : World} (h : ∀ b o, G b → W'.cell? ⟨b, o, none⟩ = W.cell? ⟨b, o, none⟩) (hn : ∀ b, G b → G' b) : ∀ (t : T) (b o : Nat), G b → NodeAt G W t b o → NodeAt G' W' t b o
  | .mk k n l, b, o, hb, hx => by
    simp only [NodeAt] at hx ⊢
    obtain ⟨h1, h2, h3, h4, a, cap, h5, h6, h7, h8⟩ := hx
    exact ⟨h1, h2, by rw [h _ _ hb]; exact h3, by rw [h _ _ hb]; exact h4, a, cap, by rw [h _ _ hb]; exact h5, h6, h7, KidsAt.mono h hn l a h8⟩
theorem KidsAt.mono {G G' : Nat → Prop} {W W' : World} (h : ∀ b o, G b → W'.cell? ⟨b, o, none⟩ = W.cell? ⟨b, o, none⟩) (hn : ∀ b, G b → G' b) : ∀ (l : List T) (a : Option Addr), KidsAt G W l a → KidsAt G' W' l a
  | [], _, _ => by simp [KidsAt]
  | t :: r, a, hx => by
    simp only [KidsAt] at hx ⊢
    obtain ⟨b, o, h1, h2, h3, h4⟩ := hx
    exact ⟨b, o, h1, hn b h2, NodeAt.mono h hn t b o h2 h3, KidsAt.mono h hn r _ h4⟩
end
theorem KidsAt.below {G G' : Nat → Prop} {B : Nat} {W W' : World} {l : List T} {a : Option Addr} (hx : KidsAt G W l a) (hb : Below B W W') (hB : ∀ b, G b → b < B) (hn : ∀ b, G b → G' b) : KidsAt G' W' l a :=
  KidsAt.mono (fun b o h => hb.cell (p := ⟨b, o, none⟩) (hB b h)) hn l a hx
theorem SlAt.below {G G' : Nat → Prop} {B : Nat} {W W' : World} {l : List T} {a : Option Addr} {cap : Nat} (hx : SlAt G W l a cap) (hb : Below B W W') (hB : ∀ b, G b → b < B) (hn : ∀ b, G b → G' b) : SlAt G' W' l a cap :=
  ⟨hx.1, hx.2.1, hx.2.2.below hb hB hn⟩
theorem TyAt.below {G G' : Nat → Prop} {B : Nat} {W W' : World} {t : T} {a : Option Addr} {cap : Nat} (hx : TyAt G W t a cap) (hb : Below B W W') (hB : ∀ b, G b → b < B) (hn : ∀ b, G b → G' b) : TyAt G' W' t a cap :=
  ⟨hx.1, hx.2.1, hx.2.2.below hb hB hn⟩
theorem NodeAt.ty {G : Nat → Prop} {W : World} {t : T} {b o : Nat} (h : NodeAt G W t b o) : ∃ a cap, TyAt G W t a cap ∧ W.cell? ⟨b, o, none⟩ = some (.int .i64 t.kind) ∧ W.cell? ⟨b, o + 1, none⟩ = some (.int .i64 t.num) ∧ W.cell? ⟨b, o + 2, none⟩ = some (.slice a t.kids.length cap) := by
  cases t with
  | mk k n l =>
    simp only [NodeAt] at h
    obtain ⟨h1, h2, h3, h4, a, cap, h5, h6, h7, h8⟩ := h
    exact ⟨a, cap, ⟨h1, h2, h6, h7, h8⟩, h3, h4, h5⟩
theorem NodeAt.mk' {G : Nat → Prop} {W : World} {t : T} {b o : Nat} {a : Option Addr} {cap : Nat} (h : TyAt G W t a cap) (h0 : W.cell? ⟨b, o, none⟩ = some (.int .i64 t.kind)) (h1 : W.cell? ⟨b, o + 1, none⟩ = some (.int .i64 t.num))
    (h2 : W.cell? ⟨b, o + 2, none⟩ = some (.slice a t.kids.length cap)) : NodeAt G W t b o := by
  cases t with
  | mk k n l => simp only [NodeAt]; exact ⟨h.1, h.2.1, h0, h1, a, cap, h2, h.2.2.1, h.2.2.2.1, h.2.2.2.2⟩
/-- The i-th of the kids. -/
theorem KidsAt.nodes {G : Nat → Prop} {W : World} : ∀ (l : List T) (b o : Nat), KidsAt G W l (some ⟨b, o, none⟩) → ∀ i (h : i < l.length), NodeAt G W l[i] b (o + i * 3)
  | [], _, _, _, i, h => by simp at h
  | t :: r, b, o, hx, i, h => by
    simp only [KidsAt] at hx
    obtain ⟨b', o', h1, h2, h3, h4⟩ := hx
    injection h1 with h1
    injection h1 with h1 h1' h1''
    subst h1 h1'
    cases i with
    | zero => rw [Nat.zero_mul, Nat.add_zero]; exact h3
    | succ j =>
      have := KidsAt.nodes r b (o + 3) h4 j (by simpa using h)
      rw [show o + 3 + j * 3 = o + (j + 1) * 3 from by omega] at this
      exact this
theorem KidsAt.first {G : Nat → Prop} {W : World} {l : List T} {a : Option Addr} (h : KidsAt G W l a) (hl : 0 < l.length) : ∃ b o, a = some ⟨b, o, none⟩ ∧ G b ∧ ∀ i (h : i < l.length), NodeAt G W l[i] b (o + i * 3) := by
  cases l with
  | nil => simp at hl
  | cons t r =>
    have h' := h
    simp only [KidsAt] at h
    obtain ⟨b, o, h1, h2, h3, h4⟩ := h
    subst h1
    exact ⟨b, o, rfl, h2, KidsAt.nodes (t :: r) b o h'⟩
theorem KidsAt.of_nodes {G : Nat → Prop} {W : World} {b : Nat} (hb : G b) : ∀ (l : List T) (o : Nat), (∀ i (h : i < l.length), NodeAt G W l[i] b (o + i * 3)) → KidsAt G W l (some ⟨b, o, none⟩)
  | [], _, _ => by simp [KidsAt]
  | t :: r, o, h => by
    simp only [KidsAt]
    refine ⟨b, o, rfl, hb, by have := h 0 (Nat.succ_pos _); rw [Nat.zero_mul, Nat.add_zero] at this; exact this, KidsAt.of_nodes hb r (o + 3) (fun i hi => ?_)⟩
    have := h (i + 1) (by simpa using hi)
    rw [show o + (i + 1) * 3 = o + 3 + i * 3 from by omega] at this
    exact this
theorem KidsAt.tail {G : Nat → Prop} {W : World} {t : T} {r : List T} {b o : Nat} (h : KidsAt G W (t :: r) (some ⟨b, o, none⟩)) : KidsAt G W r (some ⟨b, o + 3, none⟩) := by
  simp only [KidsAt] at h
  obtain ⟨b', o', h1, h2, h3, h4⟩ := h
  injection h1 with h1
  injection h1 with h1 h1' h1''
  subst h1 h1'
  exact h4
/-- What a walk reads of the first of a row. -/
theorem KidsAt.head {G : Nat → Prop} {W : World} {t : T} {r : List T} {a : Option Addr} (h : KidsAt G W (t :: r) a) : ∃ b o, a = some ⟨b, o, none⟩ ∧ G b ∧ NodeAt G W t b o ∧ KidsAt G W r (some ⟨b, o + 3, none⟩) := by
  simpa only [KidsAt] using h
end Go.Proofs.Yteolbbgnkbcfmaa
namespace Go.Proofs.Yteolbbgnkbcfmaa
open Go Go.RowKit
open Tp (T)

theorem ret_boolT {a b : Bool} (h : a = b) : Ending.returned (.bool a) = .returned (.bool b) := by rw [h]
theorem ret_intT {k : IntKind} {a b : Int} (h : a = b) : Ending.returned (.int k a) = .returned (.int k b) := by rw [h]

set_option maxHeartbeats 1000000 in
theorem kids_any (k : Int) (w : World) :
    Calls Try.prog 78 #[.int .i64 k] w fun e w' => e = .returned (.int .i64 (Tp.arity k)) ∧ w = w' := by
  go_enter Try.func78, Try.ntmps78
  go_wp2
  all_goals go_ret
  all_goals refine ⟨ret_intT ?_, rfl⟩
  all_goals (simp only [beq_iff_eq, beq_eq_false_iff_ne] at *; unfold Tp.arity; (repeat' split) <;> omega)

theorem right_iff (k n : Int) (m : Nat) : Tp.nodeRight k n m = true ↔ ((k = 1 ∨ k = 2 ∨ k = 3 ∨ k = 4 ∨ k = 5) ∧ n = 0 ∧ m = 0) ∨ (k = 6 ∧ 0 ≤ n ∧ n ≤ 1048576 ∧ m = 0) ∨ ((k = 7 ∨ k = 9) ∧ n = 0 ∧ m = 2) ∨ (k = 8 ∧ n = 0 ∧ m = 1) := by
  simp only [Tp.nodeRight, Tp.arity, Bool.and_eq_true, Bool.or_eq_true, decide_eq_true_eq]
  (repeat' split) <;> simp only [decide_eq_true_eq] <;> omega

set_option maxHeartbeats 1000000 in
theorem right_any (t : T) (a : Option Addr) (cap : Nat) (w : World) (hl : t.kids.length ≤ maxLen) :
    Calls Try.prog 127 #[tv t a cap] w fun e w' => e = .returned (.bool (Tp.nodeRight t.kind t.num t.kids.length)) ∧ Below w.heap.size w w' := by
  unfold tv
  obtain ⟨k, hk⟩ : ∃ k, t.kind = k := ⟨_, rfl⟩
  obtain ⟨n, hn⟩ : ∃ n, t.num = n := ⟨_, rfl⟩
  obtain ⟨m, hm⟩ : ∃ m, t.kids.length = m := ⟨_, rfl⟩
  rw [hk, hn, hm]; rw [hm] at hl; clear hk hn hm
  unfold maxLen at hl; have hl0 := hl; clear hl0
  go_enter Try.func127, Try.ntmps127
  go_wp2
  all_goals go_ret
  all_goals refine ⟨ret_boolT ?_, (Below.refl _ _).alloc (Nat.le_refl _) _⟩
  all_goals (rw [Bool.eq_iff_iff, right_iff]; simp only [beq_iff_eq, beq_eq_false_iff_ne, reduceCtorEq, false_iff] at *; omega)

set_option maxHeartbeats 1000000 in
theorem alike_any (t u : T) (a : Option Addr) (cap : Nat) (a' : Option Addr) (cap' : Nat) (w : World) (hl : t.kids.length ≤ maxLen) (hl' : u.kids.length ≤ maxLen) :
    Calls Try.prog 137 #[tv t a cap, tv u a' cap'] w fun e w' => e = .returned (.bool (decide (t.kind = u.kind) && decide (t.num = u.num) && decide (t.kids.length = u.kids.length))) ∧ Below w.heap.size w w' := by
  unfold tv
  obtain ⟨k, hk⟩ : ∃ k, t.kind = k := ⟨_, rfl⟩
  obtain ⟨n, hn⟩ : ∃ n, t.num = n := ⟨_, rfl⟩
  obtain ⟨m, hm⟩ : ∃ m, t.kids.length = m := ⟨_, rfl⟩
  obtain ⟨k', hk'⟩ : ∃ k, u.kind = k := ⟨_, rfl⟩
  obtain ⟨n', hn'⟩ : ∃ n, u.num = n := ⟨_, rfl⟩
  obtain ⟨m', hm'⟩ : ∃ m, u.kids.length = m := ⟨_, rfl⟩
  rw [hk, hn, hm, hk', hn', hm']; rw [hm] at hl; rw [hm'] at hl'; clear hk hn hm hk' hn' hm'
  unfold maxLen at hl hl'; have hl0 := And.intro hl hl'; clear hl0
  go_enter Try.func137, Try.ntmps137
  go_wp2
  all_goals go_ret
  all_goals refine ⟨ret_boolT ?_, ((Below.refl _ _).alloc (Nat.le_refl _) _).alloc (by simp) _⟩
  all_goals (rw [Bool.eq_iff_iff]; simp only [Bool.and_eq_true, beq_iff_eq, decide_eq_true_eq, reduceCtorEq, false_iff] at *; omega)
end Go.Proofs.Yteolbbgnkbcfmaa
namespace Go.Proofs.Yteolbbgnkbcfmaa
open Go Go.RowKit

/-- From A to B blocks of M alone have turned, and new ones have come. -/
structure Turns (M : Nat → Prop) (A B : World) : Prop where
  os : B.os = A.os
  tape : B.tape = A.tape
  output : B.output = A.output
  size : A.heap.size ≤ B.heap.size
  block : ∀ k, k < A.heap.size → ¬ M k → B.heap[k]? = A.heap[k]?
theorem Turns.refl (M : Nat → Prop) (A : World) : Turns M A A := ⟨rfl, rfl, rfl, Nat.le_refl _, fun _ _ _ => rfl⟩
theorem Turns.trans {M : Nat → Prop} {A B C : World} (h : Turns M A B) (k : Turns M B C) : Turns M A C :=
  ⟨k.os.trans h.os, k.tape.trans h.tape, k.output.trans h.output, Nat.le_trans h.size k.size, fun i hi hM => (k.block i (Nat.lt_of_lt_of_le hi h.size) hM).trans (h.block i hi hM)⟩
theorem Turns.mono {M M' : Nat → Prop} {A B : World} (h : Turns M A B) (hM : ∀ k, k < A.heap.size → M k → M' k) : Turns M' A B := ⟨h.os, h.tape, h.output, h.size, fun k hk hn => h.block k hk (fun x => hn (hM k hk x))⟩
theorem Turns.of_grown {M : Nat → Prop} {A B : World} {row : Option Nat} (h : A.grownBy B row) (hr : ∀ k, row = some k → M k) : Turns M A B := ⟨h.os, h.tape, h.output, h.size, fun k hk hM => h.block k hk (fun e => hM (hr k e.symm))⟩
theorem Turns.alloc (M : Nat → Prop) (A : World) (o : Obj) : Turns M A (A.alloc o) := .of_grown (World.grownBy_alloc A o none) (by simp)
theorem Turns.drew (M : Nat → Prop) (A : World) : Turns M A A.drew := ⟨rfl, rfl, rfl, Nat.le_refl _, fun _ _ _ => rfl⟩
theorem Turns.setCell {M : Nat → Prop} (A : World) (p : Addr) (v : Value) (h : M p.block) : Turns M A (A.setCell p v) :=
  ⟨rfl, rfl, rfl, by simp [World.setCell], fun k _ hM => Below.heap_setCell _ _ _ k (fun e => hM (by rw [e]; exact h))⟩
theorem Turns.putObj {M : Nat → Prop} (A : World) (l : Nat) (o : Obj) (h : M l) : Turns M A (A.putObj l o) := .of_grown (grownBy_putObj' A l o) (fun k e => by cases e; exact h)
theorem Turns.below {M : Nat → Prop} {B : Nat} {V A C : World} (h : Turns M A C) (hb : Below B V A) (hM : ∀ k, M k → B ≤ k) (hB : B ≤ A.heap.size) : Below B V C :=
  hb.trans ⟨h.os, h.tape, h.output, h.size, fun k hk => h.block k (Nat.lt_of_lt_of_le hk hB) (fun x => by have := hM k x; omega)⟩
theorem Turns.heap {M : Nat → Prop} {A B : World} (h : Turns M A B) {k : Nat} {o : Obj} (hk : A.heap[k]? = some o) (hM : ¬ M k) : B.heap[k]? = some o := (h.block k (Array.getElem?_eq_some_iff.1 hk).1 hM).trans hk

/-- WHAT ABIDES A STEP OF WHOEVER OWNS M (blocks from base on): M may grow by new blocks. -/
def Ab (base : Nat) (p : (Nat → Prop) → World → Prop) : Prop :=
  ∀ (M M' : Nat → Prop) (A B : World), p M A → (∀ k, M k → base ≤ k ∧ k < A.heap.size) → Turns M A B → (∀ k, M' k → (M k ∨ A.heap.size ≤ k) ∧ k < B.heap.size) → p M' B
theorem Ab.and {base : Nat} {p q : (Nat → Prop) → World → Prop} (hp : Ab base p) (hq : Ab base q) : Ab base fun M W => p M W ∧ q M W := fun M M' A B h a b c => ⟨hp M M' A B h.1 a b c, hq M M' A B h.2 a b c⟩
theorem Ab.pure (base : Nat) (p : Prop) : Ab base fun _ _ => p := fun _ _ _ _ h _ _ _ => h
theorem Ab.ex {β : Type} {base : Nat} {p : β → (Nat → Prop) → World → Prop} (h : ∀ x, Ab base (p x)) : Ab base fun M W => ∃ x, p x M W := fun M M' A B ⟨x, hx⟩ a b c => ⟨x, h x M M' A B hx a b c⟩
/-- A block that is another's lies as it lay. -/
theorem Ab.block (base k : Nat) (o : Obj) : Ab base fun M W => W.heap[k]? = some o ∧ ¬ M k := fun M M' A B h _ hT hM => ⟨hT.heap h.1 h.2, fun x => by
  rcases (hM k x).1 with y | y
  · exact h.2 y
  · have := (Array.getElem?_eq_some_iff.1 h.1).1; omega⟩
theorem Ab.below {n₀ base : Nat} (hn : n₀ ≤ base) (V : World) (hV : n₀ ≤ V.heap.size) : Ab base fun _ W => Below n₀ V W := fun _ _ _ _ h hM hT _ => hT.below h (fun k x => Nat.le_trans hn (hM k x).1) (Nat.le_trans hV h.size)

/-- WHAT THE ITERATOR OWES. -/
def SeqMine {α : Type} (P : Program) (g : Nat) (lb : Array Value) (encs : α → Array Value) (S : List α → Prop) (ok : List α → α → Prop) (n₀ : Nat) (w : World) : Prop :=
  ∀ (l : Nat) (J Jx : (Nat → Prop) → List α → World → Prop) (W : World), Below w.heap.size w W → (∀ s, Ab W.heap.size fun M W' => J M s W') → (∀ s, Ab W.heap.size fun M W' => Jx M s W') →
    (∀ M pre x W1, J M pre W1 → (∀ k, M k → W.heap.size ≤ k ∧ k < W1.heap.size) → W.heap.size ≤ W1.heap.size → ok pre x → YieldAt Fence.wide 8 P l (encs x) W1 fun e W' =>
      (e = .returned (.bool true) ∧ J M (pre ++ [x]) W' ∧ Turns (fun k => n₀ ≤ k ∧ ¬ M k) W1 W') ∨ (e = .returned (.bool false) ∧ Jx M (pre ++ [x]) W' ∧ W1.heap.size ≤ W'.heap.size)) →
    J (fun _ => False) [] W →
    Calls P g (#[.func (.yield l) #[] #[]] ++ lb) W fun e W' => (∃ v, e = .returned v) ∧
      ((∃ M xs, S xs ∧ J M xs W' ∧ ∀ k, M k → W.heap.size ≤ k ∧ k < W'.heap.size) ∨ (∃ M pre, Jx M pre W' ∧ ∀ k, M k → W.heap.size ≤ k ∧ k < W'.heap.size))

/-- HOW THE BODY OF A ROUND MAY BE LEFT. -/
def minePost {α : Type} (n₀ : Nat) (M : Nat → Prop) (I : (Nat → Prop) → List α → World → Prop) (Ix : Code → (Nat → Prop) → List α → World → Prop) (xs : List α) (W : World) : Exit → Act → World → Prop
  | .normal, _, W' => Turns (fun k => n₀ ≤ k ∧ ¬ M k) W W' ∧ I M xs W'
  | .ret, _, W' => Turns (fun k => n₀ ≤ k ∧ ¬ M k) W W' ∧ Ix .ret M xs W'
  | .exit id, _, W' => Turns (fun k => n₀ ≤ k ∧ ¬ M k) W W' ∧ Ix (.exit id) M xs W'
  | .goto t, _, W' => Turns (fun k => n₀ ≤ k ∧ ¬ M k) W W' ∧ Ix (.goto t) M xs W'
  | .panic _, _, _ => False
  | .outgrown, _, _ => False

/-- **THE STATEMENT's LAW.** -/
theorem wpIn_range_mine {P : Program} {α : Type} {g : Operand} {ps : Array Tmp} {assign body : Code} {Q : Exit → Act → World → Prop} {a : Act} {w : World}
    {gf : Nat} {lb : Array Value} (hg : a.eval g = .func (.func gf) #[] lb) (eg : ∀ args w, (callFunc gf args).run P w = .ok (.enter gf args) w)
    {encs : α → Array Value} {S : List α → Prop} {ok : List α → α → Prop} {n₀ : Nat} {w0 : World} (hseq : SeqMine P gf lb encs S ok n₀ w0) (hb0 : Below w0.heap.size w0 w) (hn₀ : n₀ ≤ w.heap.size) (hps : ∀ x, (encs x).size = ps.size)
    (I : (Nat → Prop) → List α → World → Prop) (Ix : Code → (Nat → Prop) → List α → World → Prop) (Ax : α → Act → (Nat → Prop) → World → Prop)
    (hI : ∀ s, Ab w.heap.size fun M W => I M s W) (hIx : ∀ c s, Ab w.heap.size fun M W => Ix c M s W) (hAx : ∀ x a', Ab w.heap.size fun M W => Ax x a' M W) (h0 : I (fun _ => False) [] w)
    (hassign : ∀ (l : Nat) (M : Nat → Prop) (pre : List α) (x : α) (W : World) (K : Act → World → Prop), I M pre W → (∀ k, M k → w.heap.size ≤ k ∧ k < W.heap.size) → ok pre x →
      (∀ a' W', Turns (fun _ => False) W W' → Ax x a' M W' → K a' W') →
      assign.wpIn (Fence.wide.inRound l) 8 P (Exit.then K (fun _ _ _ => False)) { tmps := (ps.zip (encs x)).foldl (fun t (p, v) => t.setIfInBounds p v) a.tmps, defers := [] } W)
    (hbody : ∀ (l : Nat) (M : Nat → Prop) (pre : List α) (x : α) (a' : Act) (W : World), I M pre W → (∀ k, M k → w.heap.size ≤ k ∧ k < W.heap.size) → w.heap.size ≤ W.heap.size → ok pre x → Ax x a' M W →
      body.wpIn (Fence.wide.inRound l) 8 P (minePost n₀ M I Ix (pre ++ [x]) W) a' W)
    (hdone : ∀ (D : Nat) (M : Nat → Prop) (xs : List α) (W : World), w.heap.size ≤ D → S xs → I M xs W → W.heap[D]? = some (.deferred (some [])) → Q .normal { a with defers := { target := .collected D, args := #[] } :: a.defers } W)
    (hstop : ∀ (D : Nat) (M : Nat → Prop) (c : Code) (pre : List α) (W : World), w.heap.size ≤ D → Ix c M pre W → W.heap[D]? = some (.deferred (some [])) → c.wpIn Fence.wide 9 P Q { a with defers := { target := .collected D, args := #[] } :: a.defers } W) :
    (Code.rangeFunc g ps assign body).wpIn Fence.wide 9 P Q a w := by
  refine wpIn_rangeFunc ?_
  intro fn hfn
  rw [show Fence.wide.round = none from rfl]
  obtain ⟨rec, hrec⟩ : ∃ rec : LoopState → Option Code → Loop, rec = fun st pe => { state := st, pending := pe, fn, tmps := a.tmps, params := ps, assign, body, defers := w.heap.size } := ⟨_, rfl⟩
  obtain ⟨W1, hW1⟩ : ∃ W1, (w.alloc (.deferred (some []))).alloc (.loop (rec .ready none)) = W1 := ⟨_, rfl⟩
  have hsz : W1.heap.size = w.heap.size + 2 := by rw [← hW1]; simp
  have hL1 : W1.heap[w.heap.size + 1]? = some (.loop (rec .ready none)) := by
    rw [← hW1]; have := World.alloc_heap_new (w.alloc (.deferred (some []))) (.loop (rec .ready none)); rwa [World.size_alloc] at this
  have hK1 : W1.heap[w.heap.size]? = some (.deferred (some [])) := by
    rw [← hW1]; exact (Below.heap_alloc _ _ _ (by simp)).trans (World.alloc_heap_new w _)
  have hT1 : Turns (fun _ => False) w W1 := by rw [← hW1]; exact (Turns.alloc _ _ _).trans (Turns.alloc _ _ _)
  have hb1 : Below w0.heap.size w0 W1 := hT1.below hb0 (fun _ h => h.elim) hb0.size
  obtain ⟨plus, hplus⟩ : ∃ plus : (Nat → Prop) → Nat → Prop, plus = fun M k => M k ∨ k = w.heap.size ∨ k = w.heap.size + 1 := ⟨_, rfl⟩
  have pl : ∀ M k, plus M k ↔ (M k ∨ k = w.heap.size ∨ k = w.heap.size + 1) := fun M k => by rw [hplus]
  have hI1 : I (plus fun _ => False) [] W1 := hI [] _ _ w W1 h0 (fun _ h => h.elim) hT1 (fun k hk => by
    rcases (pl _ _).1 hk with h | h
    · exact h.elim
    · exact ⟨Or.inr (by omega), by omega⟩)
  refine ⟨w.heap.size + 1, [{ target := .collected w.heap.size, args := #[] }], W1, { target := .fn (.func gf) lb, args := #[.func (.yield (w.heap.size + 1)) #[] #[]] }, W1, gf,
    #[.func (.yield (w.heap.size + 1)) #[] #[]] ++ lb, W1, ?_, ?_, ?_, ?_, fun h => (by cases h), ?_⟩
  · rw [← hW1, hrec]; exact run_enterLoop_outer _ _ _ _ _
  · simp only [resolve, hg]
    simp [go_sem]
  · intro f' _; trivial
  · simp [invoke, go_sem, eg]
  · refine callsIn_wide.2 ?_
    -- the blocks of whoever owns M, the loop's two beside them
    have up : ∀ {M : Nat → Prop} {A : World}, (∀ k, M k → W1.heap.size ≤ k ∧ k < A.heap.size) → W1.heap.size ≤ A.heap.size → ∀ k, plus M k → w.heap.size ≤ k ∧ k < A.heap.size := fun h hA k hk => by
      rcases (pl _ _).1 hk with x | x
      · have := h k x; omega
      · omega
    have nL : ∀ {M : Nat → Prop} {A : World}, (∀ k, M k → W1.heap.size ≤ k ∧ k < A.heap.size) → ¬ M (w.heap.size + 1) := fun h x => by have := h _ x; omega
    have nD : ∀ {M : Nat → Prop} {A : World}, (∀ k, M k → W1.heap.size ≤ k ∧ k < A.heap.size) → ¬ M w.heap.size := fun h x => by have := h _ x; omega
    -- what abides M's steps abides them with the loop's two blocks beside
    have lift : ∀ {p : (Nat → Prop) → World → Prop}, Ab w.heap.size p → ∀ (M M' : Nat → Prop) (A B : World), p (plus M) A → W1.heap.size ≤ A.heap.size → (∀ k, M k → W1.heap.size ≤ k ∧ k < A.heap.size) → Turns (plus M) A B → (∀ k, M' k → (M k ∨ A.heap.size ≤ k) ∧ k < B.heap.size) → p (plus M') B :=
      fun hp M M' A B h hA hM hT hM' => hp _ _ A B h (up hM hA) hT (fun k hk => by
        have := hT.size
        rcases (pl _ _).1 hk with x | x
        · obtain ⟨y, z⟩ := hM' k x
          exact ⟨y.elim (fun y => .inl ((pl _ _).2 (.inl y))) .inr, z⟩
        · exact ⟨.inl ((pl _ _).2 (.inr x)), by omega⟩)
    refine (hseq (w.heap.size + 1)
      (fun M pre W => I (plus M) pre W ∧ W.heap[w.heap.size + 1]? = some (.loop (rec .ready none)) ∧ W.heap[w.heap.size]? = some (.deferred (some [])))
      (fun M pre W => ∃ c, Ix c (plus M) pre W ∧ W.heap[w.heap.size + 1]? = some (.loop (rec .done (some c))) ∧ W.heap[w.heap.size]? = some (.deferred (some [])))
      W1 hb1 ?_ ?_ ?_ ⟨hI1, hL1, hK1⟩).mono ?_
    · rintro s M M' A B ⟨hi, hl, hk⟩ hM hT hM'
      have hA : W1.heap.size ≤ A.heap.size := by have := (Array.getElem?_eq_some_iff.1 hl).1; omega
      exact ⟨lift (hI s) M M' A B hi hA hM (hT.mono fun k _ h => (pl _ _).2 (.inl h)) hM', hT.heap hl (nL hM), hT.heap hk (nD hM)⟩
    · rintro s M M' A B ⟨c, hi, hl, hk⟩ hM hT hM'
      have hA : W1.heap.size ≤ A.heap.size := by have := (Array.getElem?_eq_some_iff.1 hl).1; omega
      exact ⟨c, lift (hIx c s) M M' A B hi hA hM (hT.mono fun k _ h => (pl _ _).2 (.inl h)) hM', hT.heap hl (nL hM), hT.heap hk (nD hM)⟩
    · -- ONE ROUND
      rintro M pre x W ⟨hi, hl, hk⟩ hM hA hok
      have hy := run_yield (P := P) (args := encs x) hl (by rw [hrec]; exact hps x)
      rw [hrec] at hy
      refine ⟨fn, _, assign, body, hy, roundIn_of_wpIn hfn (hassign _ (plus M) pre x W _ hi (up hM hA) hok fun a' W' hT' hax => ?_)⟩
      have hl' : W'.heap[w.heap.size + 1]? = some (.loop (rec .ready none)) := hT'.heap hl (fun h => h)
      have hk' : W'.heap[w.heap.size]? = some (.deferred (some [])) := hT'.heap hk (fun h => h)
      have hA' : W1.heap.size ≤ W'.heap.size := Nat.le_trans hA hT'.size
      have hM1 : ∀ k, M k → W1.heap.size ≤ k ∧ k < W'.heap.size := fun k h => ⟨(hM k h).1, Nat.lt_of_lt_of_le (hM k h).2 hT'.size⟩
      refine ⟨_, run_beginRound hl' (by rw [hrec]), ?_⟩
      obtain ⟨W2, hW2⟩ : ∃ W2, W'.putObj (w.heap.size + 1) (.loop { rec .ready none with state := .busy }) = W2 := ⟨_, rfl⟩
      have hlt' : w.heap.size + 1 < W'.heap.size := by omega
      have hs2 : W2.heap.size = W'.heap.size := by rw [← hW2]; simp
      have hl2 : W2.heap[w.heap.size + 1]? = some (.loop { rec .ready none with state := .busy }) := by rw [← hW2]; exact World.putObj_heap_same hlt'
      have hk2 : W2.heap[w.heap.size]? = some (.deferred (some [])) := by rw [← hW2]; exact (World.putObj_heap_other (by omega)).trans hk'
      have hT2 : Turns (plus M) W' W2 := by rw [← hW2]; exact Turns.putObj _ _ _ ((pl _ _).2 (.inr (.inr rfl)))
      rw [hW2]
      have hi2 : I (plus M) pre W2 := lift (hI pre) M M W W2 hi hA hM ((hT'.mono fun _ _ h => h.elim).trans hT2) (fun k h => ⟨.inl h, by have := (hM1 k h).2; omega⟩)
      have hax2 : Ax x a' (plus M) W2 := lift (hAx x a') M M W' W2 hax hA' hM1 hT2 (fun k h => ⟨.inl h, by have := (hM1 k h).2; omega⟩)
      refine wpIn_mono (hbody _ (plus M) pre x a' W2 hi2 (up (fun k h => ⟨(hM1 k h).1, by rw [hs2]; exact (hM1 k h).2⟩) (by omega)) (by omega) hok hax2) ?_
      have hTW : Turns (fun k => n₀ ≤ k ∧ ¬ M k) W W2 := (hT'.mono fun _ _ h => h.elim).trans (by rw [← hW2]; exact Turns.putObj _ _ _ ⟨by omega, nL hM⟩)
      have fin : ∀ (jump : Option Code) (W3 : World), Turns (fun k => n₀ ≤ k ∧ ¬ plus M k) W2 W3 → ∃ W4,
          (Instr.endRound (w.heap.size + 1) jump).run P W3 = .ok (.bool jump.isNone) W4 ∧ W4.heap[w.heap.size + 1]? = some (.loop (rec (if jump.isNone then .ready else .done) jump)) ∧
          W4.heap[w.heap.size]? = some (.deferred (some [])) ∧ Turns (plus M) W3 W4 ∧ Turns (fun k => n₀ ≤ k ∧ ¬ M k) W W4 ∧ W4.heap.size = W3.heap.size := fun jump W3 hk3 => by
        have hl3 := hk3.heap hl2 (fun h => h.2 ((pl _ _).2 (.inr (.inr rfl))))
        have hd3 := hk3.heap hk2 (fun h => h.2 ((pl _ _).2 (.inr (.inl rfl))))
        have := run_endRound (P := P) jump hl3
        refine ⟨_, this, ?_, ?_, ?_, ?_, by simp⟩
        · rw [hrec]; exact World.putObj_heap_same (Array.getElem?_eq_some_iff.1 hl3).1
        · exact (World.putObj_heap_other (by omega)).trans hd3
        · exact Turns.putObj _ _ _ ((pl _ _).2 (.inr (.inr rfl)))
        · exact (hTW.trans (hk3.mono fun k _ h => ⟨h.1, fun m => h.2 ((pl _ _).2 (.inl m))⟩)).trans (Turns.putObj _ _ _ ⟨by omega, nL hM⟩)
      have hM3 : ∀ {W3 : World}, W2.heap.size ≤ W3.heap.size → ∀ k, M k → W1.heap.size ≤ k ∧ k < W3.heap.size := fun h k m => by have := hM1 k m; omega
      rintro e a3 W3 hp
      cases e with
      | normal =>
        obtain ⟨hk3, hi3⟩ := hp
        obtain ⟨W4, hr, hl4, hk4, ht4, hT4, hs4⟩ := fin none W3 hk3
        have h3 := hM3 hk3.size
        have h23 := hk3.size
        exact ⟨_, _, hr, .inl ⟨rfl, ⟨lift (hI _) M M W3 W4 hi3 (by omega) h3 ht4 (fun k h => ⟨.inl h, by rw [hs4]; exact (h3 k h).2⟩), hl4, hk4⟩, hT4⟩⟩
      | ret =>
        obtain ⟨hk3, hi3⟩ := hp
        obtain ⟨W4, hr, hl4, hk4, ht4, hT4, hs4⟩ := fin (some .ret) W3 hk3
        have h3 := hM3 hk3.size
        have h23 := hk3.size
        exact ⟨_, _, hr, .inr ⟨rfl, ⟨.ret, lift (hIx _ _) M M W3 W4 hi3 (by omega) h3 ht4 (fun k h => ⟨.inl h, by rw [hs4]; exact (h3 k h).2⟩), hl4, hk4⟩, hT4.size⟩⟩
      | exit id =>
        obtain ⟨hk3, hi3⟩ := hp
        obtain ⟨W4, hr, hl4, hk4, ht4, hT4, hs4⟩ := fin (some (.exit id)) W3 hk3
        have h3 := hM3 hk3.size
        have h23 := hk3.size
        exact ⟨_, _, hr, .inr ⟨rfl, ⟨.exit id, lift (hIx _ _) M M W3 W4 hi3 (by omega) h3 ht4 (fun k h => ⟨.inl h, by rw [hs4]; exact (h3 k h).2⟩), hl4, hk4⟩, hT4.size⟩⟩
      | goto t =>
        obtain ⟨hk3, hi3⟩ := hp
        obtain ⟨W4, hr, hl4, hk4, ht4, hT4, hs4⟩ := fin (some (.goto t)) W3 hk3
        have h3 := hM3 hk3.size
        have h23 := hk3.size
        exact ⟨_, _, hr, .inr ⟨rfl, ⟨.goto t, lift (hIx _ _) M M W3 W4 hi3 (by omega) h3 ht4 (fun k h => ⟨.inl h, by rw [hs4]; exact (h3 k h).2⟩), hl4, hk4⟩, hT4.size⟩⟩
      | panic ch => exact hp.elim
      | outgrown => exact hp.elim
    · -- BEHIND THE ITERATOR
      have last : ∀ {p : (Nat → Prop) → World → Prop}, Ab w.heap.size p → ∀ (M : Nat → Prop) (W2 : World) (o : Obj), p (plus M) W2 → W1.heap.size ≤ W2.heap.size → (∀ k, M k → W1.heap.size ≤ k ∧ k < W2.heap.size) → p (plus M) (W2.putObj (w.heap.size + 1) o) := fun hp M W2 o h hA hM =>
        lift hp M M W2 _ h hA hM (Turns.putObj _ _ _ ((pl _ _).2 (.inr (.inr rfl)))) (fun k m => ⟨.inl m, by rw [World.putObj_size]; exact (hM k m).2⟩)
      rintro e W2 ⟨⟨v, rfl⟩, (⟨M, xs, hS, ⟨hi, hl, hk⟩, hM⟩ | ⟨M, pre, ⟨c, hi, hl, hk⟩, hM⟩)⟩
      · have hA : W1.heap.size ≤ W2.heap.size := by have := (Array.getElem?_eq_some_iff.1 hl).1; omega
        exact ⟨none, _, by have := run_endLoop (P := P) hl (by rw [hrec]; simp); rw [hrec] at this; exact this, hdone _ _ xs _ (Nat.le_refl _) hS (last (hI xs) M W2 _ hi hA hM) ((World.putObj_heap_other (by omega)).trans hk)⟩
      · have hA : W1.heap.size ≤ W2.heap.size := by have := (Array.getElem?_eq_some_iff.1 hl).1; omega
        exact ⟨some c, _, by have := run_endLoop (P := P) hl (by rw [hrec]; simp); rw [hrec] at this; exact this, hstop _ _ c pre _ (Nat.le_refl _) (last (hIx c pre) M W2 _ hi hA hM) ((World.putObj_heap_other (by omega)).trans hk)⟩
end Go.Proofs.Yteolbbgnkbcfmaa
