/- Plain facts on types as trees: sizes, depths, right ones, variables; the nodes in the order of the tree. -/
namespace Go.Proofs.Ytaaapdfdedknfaa.Tp
/-- A type: its kind, its number, its kids. -/
inductive T where
  | mk (k n : Int) (l : List T)
def T.kind : T → Int | .mk k _ _ => k
def T.num : T → Int | .mk _ n _ => n
def T.kids : T → List T | .mk _ _ l => l
mutual
def size : T → Nat | .mk _ _ l => sizes l + 1
def sizes : List T → Nat | [] => 0 | t :: r => size t + sizes r
end
mutual
def depth : T → Nat | .mk _ _ l => depths l + 1
def depths : List T → Nat | [] => 0 | t :: r => max (depth t) (depths r)
end
/-- How many kids a kind has; -1: it is none. -/
def arity (k : Int) : Int := if k = 1 ∨ k = 2 ∨ k = 3 ∨ k = 4 ∨ k = 5 ∨ k = 6 then 0 else if k = 8 then 1 else if k = 7 ∨ k = 9 then 2 else -1
/-- Is a node right, whatever its kids are? -/
def nodeRight (k n : Int) (len : Nat) : Bool := decide (arity k = len) && decide (0 ≤ n) && decide (n ≤ 1048576) && (decide (k = 6) || decide (n = 0))
mutual
def right : T → Bool | .mk k n l => nodeRight k n l.length && rights l
def rights : List T → Bool | [] => true | t :: r => right t && rights r
end
mutual
def without (x : Int) : T → Bool | .mk k _ l => !decide (k = x) && withouts x l
def withouts (x : Int) : List T → Bool | [] => true | t :: r => without x t && withouts x r
end
mutual
def same : T → T → Bool | .mk k n l, .mk k' n' l' => decide (k = k') && decide (n = n') && decide (l.length = l'.length) && sames l l'
def sames : List T → List T → Bool | a :: r, b :: s => same a b && sames r s | _, _ => true
end
/-- One variable more, if it is none that was told. -/
def addVar (k n : Int) (acc : List Int) : List Int := if k = 6 ∧ ¬ n ∈ acc then acc ++ [n] else acc
mutual
def vars : T → List Int → List Int | .mk k n l, acc => varss l (addVar k n acc)
def varss : List T → List Int → List Int | [], acc => acc | t :: r, acc => varss r (vars t acc)
end
mutual
/-- The nodes in the order of the tree, each with its depth. -/
def pre : T → Nat → List (T × Nat) | .mk k n l, d => (.mk k n l, d) :: pres l (d + 1)
def pres : List T → Nat → List (T × Nat) | [], _ => [] | t :: r, d => pre t d ++ pres r d
end

theorem size_pos : ∀ t : T, 0 < size t | .mk _ _ _ => by simp [size]
theorem sizes_append : ∀ l m : List T, sizes (l ++ m) = sizes l + sizes m
  | [], m => by simp [sizes]
  | t :: r, m => by simp [sizes, sizes_append r m]; omega
theorem length_le_sizes : ∀ l : List T, l.length ≤ sizes l
  | [] => by simp
  | t :: r => by have := size_pos t; have := length_le_sizes r; simp [sizes]; omega
mutual
theorem depth_le_size : ∀ t : T, depth t ≤ size t | .mk k n l => by have := depths_le_sizes l; simp [depth, size]; omega
theorem depths_le_sizes : ∀ l : List T, depths l ≤ sizes l
  | [] => by simp [depths]
  | t :: r => by have := depth_le_size t; have := depths_le_sizes r; simp [depths, sizes]; omega
end
mutual
theorem pre_length : ∀ (t : T) (d : Nat), (pre t d).length = size t | .mk k n l, d => by simp [pre, size, pres_length l]
theorem pres_length : ∀ (l : List T) (d : Nat), (pres l d).length = sizes l
  | [], _ => by simp [pres, sizes]
  | t :: r, d => by simp [pres, sizes, pre_length t, pres_length r]
end
/-- The greatest depth in a row of nodes. -/
def maxD : List (T × Nat) → Nat → Nat | [], m => m | x :: r, m => maxD r (max m x.2)
theorem maxD_append : ∀ (l m : List (T × Nat)) (x : Nat), maxD (l ++ m) x = maxD m (maxD l x)
  | [], _, _ => rfl
  | y :: r, m, x => by simp [maxD, maxD_append r m]
mutual
theorem pre_maxD : ∀ (t : T) (d m : Nat), maxD (pre t (d + 1)) m = max m (depth t + d)
  | .mk k n l, d, m => by
    simp only [pre, maxD, depth]
    rw [pres_maxD l (d + 1)]
    by_cases h : l = []
    · subst h; simp [depths]; omega
    · simp only [h, if_false]; omega
theorem pres_maxD : ∀ (l : List T) (d m : Nat), maxD (pres l (d + 1)) m = if l = [] then m else max m (depths l + d)
  | [], _, _ => by simp [pres, maxD]
  | t :: r, d, m => by
    simp only [pres, maxD_append, pre_maxD t d, pres_maxD r d, depths, reduceCtorEq, if_false]
    split
    · rename_i h; subst h; simp [depths]
    · omega
end
mutual
theorem pre_right : ∀ (t : T) (d : Nat), (pre t d).all (fun x => nodeRight x.1.kind x.1.num x.1.kids.length) = right t
  | .mk k n l, d => by simp only [pre, List.all_cons, right, pres_right l]; rfl
theorem pres_right : ∀ (l : List T) (d : Nat), (pres l d).all (fun x => nodeRight x.1.kind x.1.num x.1.kids.length) = rights l
  | [], _ => by simp [pres, rights]
  | t :: r, d => by simp only [pres, List.all_append, rights, pre_right t, pres_right r]
end
mutual
theorem pre_without (x : Int) : ∀ (t : T) (d : Nat), (pre t d).all (fun y => !decide (y.1.kind = x)) = without x t
  | .mk k n l, d => by simp only [pre, List.all_cons, without, pres_without x l]; rfl
theorem pres_without (x : Int) : ∀ (l : List T) (d : Nat), (pres l d).all (fun y => !decide (y.1.kind = x)) = withouts x l
  | [], _ => by simp [pres, withouts]
  | t :: r, d => by simp only [pres, List.all_append, withouts, pre_without x t, pres_without x r]
end
/-- The variables of a row of nodes. -/
def rowVars : List (T × Nat) → List Int → List Int | [], acc => acc | x :: r, acc => rowVars r (addVar x.1.kind x.1.num acc)
theorem rowVars_append : ∀ (l m : List (T × Nat)) (x : List Int), rowVars (l ++ m) x = rowVars m (rowVars l x)
  | [], _, _ => rfl
  | y :: r, m, x => by simp [rowVars, rowVars_append r m]
mutual
theorem pre_vars : ∀ (t : T) (d : Nat) (acc : List Int), rowVars (pre t d) acc = vars t acc
  | .mk k n l, d, acc => by simp only [pre, rowVars, vars, pres_vars l]; rfl
theorem pres_vars : ∀ (l : List T) (d : Nat) (acc : List Int), rowVars (pres l d) acc = varss l acc
  | [], _, _ => by simp [pres, rowVars, varss]
  | t :: r, d, acc => by simp only [pres, rowVars_append, varss, pre_vars t, pres_vars r]
end
mutual
theorem same_iff : ∀ a b : T, same a b = true ↔ a = b
  | .mk k n l, .mk k' n' l' => by
    simp only [same, Bool.and_eq_true, decide_eq_true_eq, T.mk.injEq]
    constructor
    · rintro ⟨⟨⟨h1, h2⟩, h3⟩, h4⟩; exact ⟨h1, h2, (sames_iff l l' h3).1 h4⟩
    · rintro ⟨h1, h2, h3⟩; subst h3; exact ⟨⟨⟨h1, h2⟩, rfl⟩, (sames_iff l l rfl).2 rfl⟩
theorem sames_iff : ∀ a b : List T, a.length = b.length → (sames a b = true ↔ a = b)
  | [], [], _ => by simp [sames]
  | a :: r, b :: s, h => by simp [sames, same_iff a b, sames_iff r s (by simpa using h)]
end
theorem same_refl (a : T) : same a a = true := (same_iff a a).2 rfl
theorem same_comm (a b : T) : same a b = same b a := by
  rw [Bool.eq_iff_iff, same_iff, same_iff]; exact eq_comm
end Go.Proofs.Ytaaapdfdedknfaa.Tp
