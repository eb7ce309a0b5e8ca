/- typ.nodes: the nodes of a type in the order of the tree, by a stack of the iterator's own. typ.nodes' closure, walked. typ.nodes; typ.Size, typ.Depth. typ.Depth, typ.has, typ.Static, typ.Closed, typ.Check. -/
import Derived.Test.YteolbbgnkbcfmaaTpP
import Derived.Sort.LoopGhostIn
import Derived.Sort.CutIn
import Derived.Deep.LoopGhost
import Derived.Deep.AppendLies
import Derived.Deep.RegionLaw
import Derived.Outline
namespace Go.Proofs.Yteolbbgnkbcfmaa
open Go Go.RowKit Go.Shelf
open Tp (T)

attribute [local go_sem] Oper.semAt_some

/-- What lies on the stack: types of one depth, one at least. -/
structure Ent where
  ts : List T
  a : Option Addr
  cap : Nat
  d : Nat
def entCells (e : Ent) : List Value := [.slice e.a e.ts.length e.cap, .int .i64 (e.d : Int)]
def stCells (S : List Ent) : List Value := S.flatMap entCells
/-- What is still to come, of a stack whose top is the first. -/
def todo (R : List Ent) : List (T × Nat) := R.flatMap fun e => Tp.pres e.ts e.d
theorem stCells_length : ∀ S : List Ent, (stCells S).length = S.length * 2
  | [] => rfl
  | e :: r => by
    have := stCells_length r
    simp only [stCells, List.flatMap_cons, List.length_append, List.length_cons, entCells, List.length_nil] at this ⊢
    omega
theorem stCells_snoc (S : List Ent) (e : Ent) : stCells (S ++ [e]) = stCells S ++ entCells e := by simp [stCells]

theorem elem_st : Try.prog.underlying 185 = some (.slice (Try.prog.elem 185)) := by kernel_rfl
theorem size_st (w : World) : (sizeOf (Try.prog.elem 185)).run Try.prog w = .ok 2 w := by kernel_rfl
theorem info_st : (Try.prog.info? 184).map (fun i => (i.zero, i.size, i.bytes)) = some (some (.agg #[.slice none 0 0, .int .i64 0]), 2, 32) := by kernel_rfl
theorem info_ty : (Try.prog.info? 26).map (fun i => (i.zero, i.size, i.bytes)) = some (some (.agg #[.int .i64 0, .int .i64 0, .slice none 0 0]), 3, 40) := by kernel_rfl
theorem elem_ty : Try.prog.underlying 24 = some (.slice (Try.prog.elem 24)) := by kernel_rfl
theorem size_ty (w : World) : (sizeOf (Try.prog.elem 24)).run Try.prog w = .ok 3 w := by kernel_rfl

theorem add_flat (g o j : Nat) : ((⟨g, o, none⟩ : Addr).add j) = ⟨g, o + j, none⟩ := by unfold Addr.add; split <;> simp_all
/-- 'open[:top]': the stack without its top. -/
theorem st_pop (g n cap k : Nat) (hk : k ≤ n) (hn : n ≤ cap) (w' : World) :
    (Instr.slice 185 (.slice (some ⟨g, 0, none⟩) n cap) none (some (.int .i64 (k : Int))) none).run Try.prog w' = .ok (.slice (some ⟨g, 0, none⟩) k cap) w' := by
  rw [run_slice_h w' _ _ n cap elem_st .i64 (k : Int) (by omega) (by omega), size_st]
  simp [Result.andThen, sliced, add_flat]
/-- 'list[1:]', where two are left at least. -/
theorem list_tail (b o n cap : Nat) (hn : 1 < n) (hc : n ≤ cap) (w' : World) :
    (Instr.slice 24 (.slice (some ⟨b, o, none⟩) n cap) (some (.int .i64 1)) none none).run Try.prog w' = .ok (.slice (some ⟨b, o + 3, none⟩) (n - 1) (cap - 1)) w' := by
  have h := run_slice_l w' 24 (some ⟨b, o, none⟩) n cap elem_ty .i64 1 (by omega) (by omega)
  rw [h, size_ty]
  simp [Result.andThen, sliced, add_flat]
  omega
theorem own_take {w : World} {base : Nat} {e : TypeId} {size n k g cap : Nat} {xs ys : List Value} (h : w.ownsRow base e size (.slice (some ⟨g, 0, none⟩) n cap) n (xs ++ ys)) (hk : k ≤ n) (hx : xs.length = k * size) :
    w.ownsRow base e size (.slice (some ⟨g, 0, none⟩) k cap) k xs := by
  obtain ⟨h1, h2 | ⟨g', cap', cur, h3, h4, h5, h6, h7, h8, h9⟩⟩ := h
  · cases h2.1
  · injection h3 with e1 e2 e3
    injection e1 with e1
    injection e1 with e1 e4 e5
    subst e1 e3
    refine ⟨hx, .inr ⟨g, cap, cur, rfl, h4, h5, by omega, h7, h8, ?_⟩⟩
    have := congrArg (List.take (k * size)) h9
    rw [List.take_take, Nat.min_eq_left (Nat.mul_le_mul_right _ hk), List.take_append_of_le_length (by omega), ← hx, List.take_length] at this
    rw [← hx]; exact this
theorem own_shapeT {w : World} {B sz : Nat} {e : TypeId} {v : Value} {n : Nat} {xs : List Value} (h : w.ownsRow B e sz v n xs) : ∃ a cap, v = .slice a n cap := by
  rcases h.2 with ⟨h1, h2⟩ | ⟨g, cap, cur, h1, _⟩
  · exact ⟨none, 0, by rw [h1, h2]⟩
  · exact ⟨some ⟨g, 0, none⟩, cap, h1⟩
theorem own_same {w w' : World} {B sz : Nat} {e : TypeId} {v : Value} {n : Nat} {xs : List Value} (h : w.ownsRow B e sz v n xs) (hs : ∀ g, v.ownBlock = some g → w'.heap[g]? = w.heap[g]?) : w'.ownsRow B e sz v n xs := by
  obtain ⟨h1, h2 | ⟨g, cap, cur, h3, h4, h5, h6⟩⟩ := h
  · exact ⟨h1, .inl h2⟩
  · exact ⟨h1, .inr ⟨g, cap, cur, h3, h4, (hs g (by rw [h3]; rfl)).trans h5, h6⟩⟩
/-- The top of the stack, and the stack without it. -/
theorem own_top {w : World} {base : Nat} {v : Value} {R : List Ent} {e : Ent} (h : w.ownsRow base 184 2 v (R.length + 1) (stCells (e :: R).reverse)) :
    ∃ g cap, v = .slice (some ⟨g, 0, none⟩) (R.length + 1) cap ∧ base ≤ g ∧ g < w.heap.size ∧ R.length + 1 ≤ cap ∧ cap ≤ maxLen ∧ w.cell? ⟨g, R.length * 2, none⟩ = some (.slice e.a e.ts.length e.cap) ∧
      w.cell? ⟨g, R.length * 2 + 1, none⟩ = some (.int .i64 (e.d : Int)) ∧ w.ownsRow base 184 2 (.slice (some ⟨g, 0, none⟩) R.length cap) R.length (stCells R.reverse) := by
  rw [List.reverse_cons, stCells_snoc] at h
  obtain ⟨h1, h2 | ⟨g, cap, cur, h3, h4, h5, h6, h7, h8, h9⟩⟩ := id h
  · omega
  · subst h3
    have hlen := stCells_length R.reverse
    rw [List.length_reverse] at hlen
    have hc := h.cells (g := g) rfl
    refine ⟨g, cap, rfl, h4, (Array.getElem?_eq_some_iff.1 h5).1, h6, h7, ?_, ?_, own_take h (Nat.le_succ _) hlen⟩
    · have := hc (R.length * 2) (.slice e.a e.ts.length e.cap) (by rw [← hlen, List.getElem?_append_right (Nat.le_refl _), Nat.sub_self]; rfl)
      rwa [add_flat, Nat.zero_add] at this
    · have := hc (R.length * 2 + 1) (.int .i64 (e.d : Int)) (by rw [← hlen, List.getElem?_append_right (by omega), Nat.add_sub_cancel_left]; rfl)
      rwa [add_flat, Nat.zero_add] at this

/-- A node as it is handed to a round. -/
structure Nd where
  t : T
  d : Nat
  a : Option Addr
  cap : Nat
def Nd.key (x : Nd) : T × Nat := (x.t, x.d)
def ndEnc (x : Nd) : Array Value := #[tv x.t x.a x.cap, .int .i64 (x.d : Int)]
def ndAll (t : T) (xs : List Nd) : Prop := xs.map Nd.key = Tp.pre t 1
def ndOk (t : T) (pre : List Nd) (x : Nd) : Prop := (∃ rest, pre.map Nd.key ++ x.key :: rest = Tp.pre t 1) ∧ I64 x.t.kind ∧ I64 x.t.num ∧ x.t.kids.length ≤ maxLen ∧ x.d ≤ 20000

/-- An entry as it lies in memory. -/
def Ent.good (G : Nat → Prop) (w : World) (t : T) (e : Ent) : Prop := e.ts ≠ [] ∧ SlAt G w e.ts e.a e.cap ∧ e.d + Tp.sizes e.ts ≤ Tp.size t + 1
/-- What the stack is between two rounds: 'G' the blocks whose cells nobody turns. -/
structure Stk (G : Nat → Prop) (t : T) (base : Nat) (M : Nat → Prop) (R : List Ent) (pre : List Nd) (v : Value) (w : World) : Prop where
  own : w.ownsRow base 184 2 v R.length (stCells R.reverse)
  mine : ∀ g, v.ownBlock = some g → M g
  each : ∀ e ∈ R, e.good G w t
  todo : pre.map Nd.key ++ todo R = Tp.pre t 1
theorem slat_same {G : Nat → Prop} {w w' : World} (hG : ∀ k, G k → w'.heap[k]? = w.heap[k]?) {l : List T} {a : Option Addr} {cap : Nat} (h : SlAt G w l a cap) : SlAt G w' l a cap :=
  ⟨h.1, h.2.1, KidsAt.mono (fun b o hb => World.cell?_of_block (a := ⟨b, o, none⟩) (hG b hb)) (fun _ h => h) l a h.2.2⟩
theorem good_tail {G : Nat → Prop} {w w' : World} (hG : ∀ k, G k → w'.heap[k]? = w.heap[k]?) {t x : T} {rs : List T} {b o cap d : Nat} (h : Ent.good G w t ⟨x :: rs, some ⟨b, o, none⟩, cap, d⟩) (hr : rs ≠ []) : Ent.good G w' t ⟨rs, some ⟨b, o + 3, none⟩, cap - 1, d⟩ := by
  obtain ⟨_, ⟨h1, h2, h3⟩, h4⟩ := h
  refine ⟨hr, slat_same hG ⟨?_, ?_, h3.tail⟩, ?_⟩
  · simp only [List.length_cons] at h1 ⊢; omega
  · dsimp only at h2 ⊢; omega
  · have := Tp.size_pos x; simp only [Tp.sizes] at h4 ⊢; omega
theorem good_kids {G : Nat → Prop} {w w' : World} (hG : ∀ k, G k → w'.heap[k]? = w.heap[k]?) {t x : T} {rs : List T} {ea xa : Option Addr} {cap xcap d : Nat} (h : Ent.good G w t ⟨x :: rs, ea, cap, d⟩) (hx : TyAt G w x xa xcap) (hr : x.kids ≠ []) : Ent.good G w' t ⟨x.kids, xa, xcap, d + 1⟩ := by
  obtain ⟨_, _, h4⟩ := h
  refine ⟨hr, slat_same hG hx.2.2, ?_⟩
  cases x with
  | mk k n l => simp only [Tp.sizes, Tp.size] at h4; simp only [T.kids, Tp.T.kids]; omega
theorem b32 {r : Nat} (h : r ≤ 10000) : (r + 1) * 32 ≤ 140737488355328 ∧ (r + 1 + 1) * 32 ≤ 140737488355328 ∧ r + 1 ≤ maxLen ∧ r + 1 + 1 ≤ maxLen := by unfold maxLen; omega
theorem push_turns {M : Nat → Prop} {A B C : World} {o : Obj} {row : Option Nat} (h : Turns M A B) (hg : (B.alloc o).grownBy C row) (hrow : ∀ k, row = some k → k < A.heap.size → M k) : Turns M A C := by
  have hs := h.size
  have hg' := hg.size
  rw [World.size_alloc] at hg'
  refine ⟨hg.os.trans h.os, hg.tape.trans h.tape, hg.output.trans h.output, by omega, fun k hk hM => ?_⟩
  rw [hg.block k (by rw [World.size_alloc]; omega) (fun e => hM (hrow k e.symm hk)), Below.heap_alloc _ _ _ (by omega)]
  exact h.block k hk hM
theorem push_same {G : Nat → Prop} {V B C : World} {o : Obj} {row : Option Nat} (h : ∀ k, G k → B.heap[k]? = V.heap[k]?) (hlt : ∀ k, G k → k < B.heap.size) (hg : (B.alloc o).grownBy C row) (hrow : ∀ k, row = some k → ¬ G k) : ∀ k, G k → C.heap[k]? = V.heap[k]? := fun k hk => by
  have := hlt k hk
  rw [hg.block k (by rw [World.size_alloc]; omega) (fun e => hrow k e.symm hk), Below.heap_alloc _ _ _ this]
  exact h k hk
theorem two_cells (a : Option Addr) (n c : Nat) (d : Int) : ∀ u ∈ [Value.slice a n c, .int .i64 d], u.oneCell' = true := by
  intro u hu
  simp only [List.mem_cons, List.not_mem_nil, or_false] at hu
  rcases hu with rfl | rfl <;> rfl
theorem good_same {G : Nat → Prop} {w w' : World} (hG : ∀ k, G k → w'.heap[k]? = w.heap[k]?) {t : T} {e : Ent} (h : e.good G w t) : e.good G w' t := ⟨h.1, slat_same hG h.2.1, h.2.2⟩
/-- append at an operation inside a fence; it tells where the row then lies. -/
theorem wpListIn_append_lies {F : Fence} {n' : Nat} {P : Program} (w : World) {ops : Array Oper} {rest : List Oper} {o : Oper} {a : Act} {Q : Exit → Act → World → Prop}
    (hgd : o.guard = none) (s x : Operand) (t : TypeId) (hop : o.op = Op.call { callee := Callee.builtin Builtin.append, args := #[s, x], argTypes := #[t, t] })
    (base : Nat) (e : TypeId) (i : TypeInfo) (z : Value) (size bytes : Nat) (ht : P.underlying t = some (.slice e)) (hi : P.info? e = some i) (hz : i.zero = some z)
    (hsize : i.size = size) (hby : i.bytes = bytes) (hzs : z.cells.size = size) (hsz : 0 < size)
    (v : Value) (n : Nat) (xs : List Value) (hs : a.eval s = v) (hown : w.ownsRow base e size v n xs)
    (ad : Addr) (m c : Nat) (news : List Value) (hx : a.eval x = .slice (some ad) m c) (hl : news.length = m * size) (hnews : ∀ j u, news[j]? = some u → w.cell? (ad.add j) = some u) (h1 : ∀ u ∈ news, u.oneCell' = true)
    (hm : 0 < m) (h63 : n + m ≤ maxLen) (hbytes : (n + m) * bytes ≤ 140737488355328) (hbase : base ≤ w.heap.size)
    (hK : ∀ g cap w', w'.ownsRow base e size (.slice (some ⟨g, 0, none⟩) (n + m) cap) (n + m) (xs ++ news) → w.grownBy w' v.ownBlock → (v.ownBlock = some g ∨ g = w.heap.size) → wpListIn F n' P ops Q rest (a.put o.dst (.slice (some ⟨g, 0, none⟩) (n + m) cap)) w') :
    wpListIn F n' P ops Q (o :: rest) a w := by
  refine wpListIn_plain hgd fun K hK' => ?_
  obtain ⟨g, cap, w', hrun, r1, r2, r3, _⟩ := run_append_lies (P := P) (w := w) t o.type base e i z size bytes ht hi hz hsize hby hzs hsz v n xs hown ad m c news hl hnews h1 hm h63 hbytes hbase w.heap.size rfl
  unfold Oper.wpIn
  refine ⟨?_, ?_⟩
  · simp [Oper.about, hop, resolve, Target.leads, Sem.run_pure]
  · rw [Oper.semAt_plain F _ _ (by rw [hop]; intro c hc'; cases hc')]
    simp [execOp, hop, resolve, invoke, builtin, hs, hx, hrun, Result.andThen]
    exact hK' _ _ (hK g cap w' r1 r2 r3)
theorem d_bound {d s n : Nat} (h : d + s ≤ n + 1) (hn : n ≤ 10000) : (d : Int) ≤ 10001 := by omega
theorem not_G {g n₀ B : Nat} (h : B + 1 ≤ g) (hn : n₀ ≤ B) : ¬ (g < n₀ ∨ g = B) := by omega
theorem lt_G {k n₀ B S : Nat} (hn : n₀ ≤ B) (hb : B + 1 ≤ S) (h : k < n₀ ∨ k = B) : k < S := by omega
theorem lies_at {g g1 n cap : Nat} {w : World} {o : Obj} (h : (Value.slice (some ⟨g, 0, none⟩) n cap).ownBlock = some g1 ∨ g1 = (w.alloc o).heap.size) : g1 = g ∨ w.heap.size ≤ g1 := by
  rcases h with h | h
  · injection h with h; exact .inl h.symm
  · rw [World.size_alloc] at h; omega
theorem undrew {A B : World} {row : Option Nat} (h : A.drew.grownBy B row) : A.grownBy B row := ⟨h.os, h.tape, h.output, h.size, h.block⟩
theorem lies_at' {g g1 n cap S : Nat} (h : (Value.slice (some ⟨g, 0, none⟩) n cap).ownBlock = some g1 ∨ g1 = S + 1) : g1 = g ∨ S ≤ g1 := by
  rcases h with h | h
  · injection h with h; exact .inl h.symm
  · omega
theorem far_block {A B : World} {o : Obj} {g k : Nat} (h : (A.alloc o).grownBy B (some g)) (hk : k < A.heap.size) (hne : k ≠ g) : B.heap[k]? = A.heap[k]? := by
  rw [h.block k (by rw [World.size_alloc]; omega) (fun e => hne (by injection e)), Below.heap_alloc _ _ _ hk]
theorem lies2 {g g1 g2 S S1 : Nat} (h : g2 = g1 ∨ S1 ≤ g2) (h1 : g1 = g ∨ S ≤ g1) (hS : S ≤ S1) : g2 = g ∨ S ≤ g2 := by omega
/-- BEHIND A ROUND. -/
theorem stk_next {G : Nat → Prop} {t x : T} {base ecap d xcap : Nat} {M M5 : Nat → Prop} {R E : List Ent} {pre : List Nd} {v v5 : Value} {wr W5 : World} {rs : List T} {ea xa : Option Addr}
    (h : Stk G t base M (⟨x :: rs, ea, ecap, d⟩ :: R) pre v wr) (hG : ∀ k, G k → W5.heap[k]? = wr.heap[k]?) (hE : ∀ e ∈ E, e.good G W5 t) (hT : todo E = Tp.pres x.kids (d + 1) ++ Tp.pres rs d)
    (hown : W5.ownsRow base 184 2 v5 (E ++ R).length (stCells (E ++ R).reverse)) (hm : ∀ g, v5.ownBlock = some g → M5 g) :
    Stk G t base M5 (E ++ R) (pre ++ [⟨x, d, xa, xcap⟩]) v5 W5 ∧ (todo (E ++ R)).length < (todo (⟨x :: rs, ea, ecap, d⟩ :: R)).length := by
  have e1 : todo (⟨x :: rs, ea, ecap, d⟩ :: R) = (x, d) :: todo (E ++ R) := by
    have : todo (E ++ R) = todo E ++ todo R := by simp [todo]
    rw [this, hT]
    cases x with
    | mk k n l => simp [todo, Tp.pres, Tp.pre, Tp.T.kids]
  refine ⟨⟨hown, hm, fun e he => ?_, ?_⟩, by rw [e1]; simp⟩
  · rcases List.mem_append.1 he with he | he
    · exact hE e he
    · have := h.each e (List.mem_cons_of_mem _ he)
      exact ⟨this.1, slat_same hG this.2.1, this.2.2⟩
  · have := h.todo
    rw [e1] at this
    rw [← this]; simp [Nd.key]
theorem todo_pos {R : List Ent} {G : Nat → Prop} {w : World} {t : T} (h : ∀ e ∈ R, e.good G w t) : R.length ≤ (todo R).length := by
  induction R with
  | nil => simp
  | cons e r ih =>
    have h1 := ih fun e he => h e (List.mem_cons_of_mem _ he)
    have h2 := (h e (by simp)).1
    have h3 : 0 < (Tp.pres e.ts e.d).length := by
      rw [Tp.pres_length]
      have := Tp.length_le_sizes e.ts
      have := List.length_pos_iff.2 h2
      omega
    simp only [todo, List.flatMap_cons, List.length_append, List.length_cons] at h1 ⊢
    omega
theorem Stk.len {G : Nat → Prop} {t : T} {base : Nat} {M : Nat → Prop} {R : List Ent} {pre : List Nd} {v : Value} {w : World} (h : Stk G t base M R pre v w) : R.length ≤ Tp.size t := by
  have h1 := todo_pos h.each
  have h2 := congrArg List.length h.todo
  rw [List.length_append, Tp.pre_length] at h2
  omega
theorem cell_lt {w : World} {a : Addr} {v : Value} (h : w.cell? a = some v) : a.block < w.heap.size := by
  unfold World.cell? at h
  cases hb : w.heap[a.block]? with
  | none => rw [hb] at h; cases h
  | some o => exact (Array.getElem?_eq_some_iff.1 hb).1
theorem box1 (w : World) (A B : Array Value) (s u : TypeId) : ((w.alloc (.cells A s)).alloc (.cells B u)).heap[w.heap.size]? = some (.cells A s) := (Below.heap_alloc _ _ _ (by simp)).trans (World.alloc_heap_new w _)
theorem box2 (w : World) (A B : Array Value) (s u : TypeId) : ((w.alloc (.cells A s)).alloc (.cells B u)).heap[w.heap.size + 1]? = some (.cells B u) := by
  have := World.alloc_heap_new (w.alloc (.cells A s)) (.cells B u); rwa [World.size_alloc] at this
theorem cell_box {w w' : World} {b i : Nat} {A : Array Value} {s : TypeId} {v : Value} (h : w.heap[b]? = some (.cells A s)) (hs : w'.heap[b]? = w.heap[b]?) (hv : A[i]? = some v) : w'.cell? ⟨b, i, none⟩ = some v := by
  simp [World.cell?, hs, h, hv]
/-- At the start: the type alone. -/
theorem stk_start {W : World} {t : T} {n₀ : Nat} {a0 : Option Addr} {cap0 : Nat} (hty : TyAt (LT n₀) W t a0 cap0) (hn : n₀ ≤ W.heap.size) :
    Stk (fun b => b < n₀ ∨ b = W.heap.size) t (W.heap.size + 1) (fun k => k = W.heap.size ∨ k = W.heap.size + 1) [⟨[t], some ⟨W.heap.size, 0, none⟩, 1, 1⟩] [] (.slice (some ⟨W.heap.size + 1, 0, none⟩) 1 1)
      ((W.alloc (.cells #[.int .i64 t.kind, .int .i64 t.num, .slice a0 t.kids.length cap0] 26)).alloc (.cells #[.slice (some ⟨W.heap.size, 0, none⟩) 1 1, .int .i64 1] 184)) := by
  obtain ⟨W2, hW2⟩ : ∃ W2, (W.alloc (.cells #[.int .i64 t.kind, .int .i64 t.num, .slice a0 t.kids.length cap0] 26)).alloc (.cells #[.slice (some ⟨W.heap.size, 0, none⟩) 1 1, .int .i64 1] 184) = W2 := ⟨_, rfl⟩
  have hb : Below W.heap.size W W2 := by rw [← hW2]; exact ((Below.refl _ _).alloc (Nat.le_refl _) _).alloc (by simp) _
  have hbx : W2.heap[W.heap.size]? = some (.cells #[.int .i64 t.kind, .int .i64 t.num, .slice a0 t.kids.length cap0] 26) := by rw [← hW2]; exact box1 _ _ _ _ _
  have hown : W2.ownsRow (W.heap.size + 1) 184 2 (.slice (some ⟨W.heap.size + 1, 0, none⟩) 1 1) 1 [.slice (some ⟨W.heap.size, 0, none⟩) 1 1, .int .i64 1] := by
    refine ⟨rfl, .inr ⟨W.heap.size + 1, 1, #[.slice (some ⟨W.heap.size, 0, none⟩) 1 1, .int .i64 1], rfl, Nat.le_refl _, ?_, Nat.le_refl _, by unfold maxLen; omega, rfl, rfl⟩⟩
    rw [← hW2]; exact box2 _ _ _ _ _
  rw [hW2]
  refine ⟨hown, fun g hg => by injection hg with hg; exact .inr hg.symm, fun e he => ?_, by simp [todo, Tp.pres]⟩
  obtain rfl := List.mem_singleton.1 he
  refine ⟨by simp, ⟨by simp, by unfold maxLen; simp, ?_⟩, by simp [Tp.sizes]; omega⟩
  refine KidsAt.of_nodes (.inr rfl) [t] 0 (fun i hi => ?_)
  obtain rfl : i = 0 := by simpa using hi
  exact NodeAt.mk' (hty.below hb (fun b h => Nat.lt_of_lt_of_le h hn) (fun b h => .inl h)) (cell_box hbx rfl rfl) (cell_box hbx rfl rfl) (cell_box hbx rfl rfl)
theorem todo_cons {x : T} {rs : List T} {ea : Option Addr} {ecap d : Nat} {R : List Ent} : todo (⟨x :: rs, ea, ecap, d⟩ :: R) = (x, d) :: (Tp.pres x.kids (d + 1) ++ Tp.pres rs d ++ todo R) := by
  cases x with
  | mk k n l => simp [todo, Tp.pres, Tp.pre, Tp.T.kids]
theorem nd_ok {G : Nat → Prop} {t x : T} {base ecap d xcap : Nat} {M : Nat → Prop} {R : List Ent} {pre : List Nd} {v : Value} {wr : World} {rs : List T} {ea xa : Option Addr} (h : Stk G t base M (⟨x :: rs, ea, ecap, d⟩ :: R) pre v wr)
    (hx : TyAt G wr x xa xcap) (ht : Tp.size t ≤ 10000) : ndOk t pre ⟨x, d, xa, xcap⟩ := by
  refine ⟨⟨_, by rw [← h.todo, todo_cons]; rfl⟩, hx.1, hx.2.1, Nat.le_trans hx.2.2.1 hx.2.2.2.1, ?_⟩
  have := (h.each _ (List.mem_cons_self ..)).2.2
  dsimp only at this ⊢
  omega
/-- BEHIND A ROUND, ALL OF IT. -/
theorem round_end {t x : T} {n₀ base ecap d xcap g : Nat} {M M' : Nat → Prop} {R E : List Ent} {pre : List Nd} {v v5 : Value} {W wr W3 W5 : World} {rs : List T} {ea xa : Option Addr} {J : (Nat → Prop) → List Nd → World → Prop}
    (hJ : ∀ s, Ab W.heap.size fun M W' => J M s W') (h : Stk (fun b => b < n₀ ∨ b = W.heap.size) t base M (⟨x :: rs, ea, ecap, d⟩ :: R) pre v wr) (hJ3 : J M' (pre ++ [⟨x, d, xa, xcap⟩]) W3) (hM' : ∀ k, M' k → W.heap.size ≤ k ∧ k < W3.heap.size) (hW3 : W.heap.size + 1 ≤ W3.heap.size) (hMB : M' W.heap.size) (hMg : M' g)
    (hT : Turns M' W3 W5) (hG : ∀ k, (k < n₀ ∨ k = W.heap.size) → W5.heap[k]? = wr.heap[k]?) (hE : ∀ e ∈ E, e.good (fun b => b < n₀ ∨ b = W.heap.size) W5 t) (hT' : todo E = Tp.pres x.kids (d + 1) ++ Tp.pres rs d)
    (hown : W5.ownsRow base 184 2 v5 (E ++ R).length (stCells (E ++ R).reverse)) (hy : ∀ y, v5.ownBlock = some y → y = g ∨ W3.heap.size ≤ y) :
    (todo (E ++ R)).length < (todo (⟨x :: rs, ea, ecap, d⟩ :: R)).length ∧ (∃ M R' pre', Stk (fun b => b < n₀ ∨ b = W.heap.size) t base M R' pre' v5 W5 ∧ J M pre' W5 ∧ (∀ k, M k → W.heap.size ≤ k ∧ k < W5.heap.size) ∧ M W.heap.size ∧ W.heap.size + 1 ≤ W5.heap.size ∧ (todo (E ++ R)).length = (todo R').length) := by
  have hs := hT.size
  obtain ⟨k1, k2⟩ := stk_next (M5 := fun k => (M' k ∨ W3.heap.size ≤ k) ∧ k < W5.heap.size) (xa := xa) (xcap := xcap) h hG hE hT' hown (fun y e => by
    have hl := hown.lt y e
    rcases hy y e with h | h
    · subst h; exact ⟨.inl hMg, hl.2⟩
    · exact ⟨.inr h, hl.2⟩)
  refine ⟨k2, _, _, _, k1, hJ _ M' _ W3 W5 hJ3 hM' hT (fun k hk => hk), fun k hk => ⟨?_, hk.2⟩, ⟨.inl hMB, by omega⟩, by omega, rfl⟩
  rcases hk.1 with h | h
  · exact (hM' k h).1
  · omega
end Go.Proofs.Yteolbbgnkbcfmaa
namespace Go.Proofs.Yteolbbgnkbcfmaa
open Go Go.RowKit Go.Shelf
open Tp (T)

attribute [local go_sem] Oper.semAt_some

set_option maxRecDepth 100000 in
set_option maxHeartbeats 4000000 in
theorem nodes_walk (t : T) (hsz : Tp.size t ≤ 10000) (n₀ Bt l : Nat) (a0 : Option Addr) (cap0 : Nat) (J Jx : (Nat → Prop) → List Nd → World → Prop) (W : World) (hJ : ∀ s, Ab W.heap.size fun M W' => J M s W') (hJx : ∀ s, Ab W.heap.size fun M W' => Jx M s W')
    (hY : ∀ M pre x W1, J M pre W1 → (∀ k, M k → W.heap.size ≤ k ∧ k < W1.heap.size) → W.heap.size ≤ W1.heap.size → ndOk t pre x → YieldAt Fence.wide 8 Try.prog l (ndEnc x) W1 fun e W' =>
      (e = .returned (.bool true) ∧ J M (pre ++ [x]) W' ∧ Turns (fun k => n₀ ≤ k ∧ ¬ M k) W1 W') ∨ (e = .returned (.bool false) ∧ Jx M (pre ++ [x]) W' ∧ W1.heap.size ≤ W'.heap.size))
    (h0 : J (fun _ => False) [] W) (hn₀ : n₀ ≤ W.heap.size) (hty : TyAt (LT n₀) W t a0 cap0) (c0 : W.cell? ⟨Bt, 0, none⟩ = some (.int .i64 t.kind)) (c1 : W.cell? ⟨Bt, 1, none⟩ = some (.int .i64 t.num)) (c2 : W.cell? ⟨Bt, 2, none⟩ = some (.slice a0 t.kids.length cap0)) :
    CallsIn Fence.wide 9 Try.prog 136 #[.func (.yield l) #[] #[], .pointer (some ⟨Bt, 0, none⟩)] W fun e W' => (∃ v, e = .returned v) ∧
      ((∃ M xs, ndAll t xs ∧ J M xs W' ∧ ∀ k, M k → W.heap.size ≤ k ∧ k < W'.heap.size) ∨ (∃ M pre, Jx M pre W' ∧ ∀ k, M k → W.heap.size ≤ k ∧ k < W'.heap.size)) := by
  have HY := Lib.hid hY; have HJ := Lib.hid hJ; have HX := Lib.hid hJx; clear hY hJ hJx
  obtain ⟨k0, hk0⟩ : ∃ k0, t.kind = k0 := ⟨_, rfl⟩
  obtain ⟨n0, hn0⟩ : ∃ n0, t.num = n0 := ⟨_, rfl⟩
  obtain ⟨m0, hm0⟩ : ∃ m0, t.kids.length = m0 := ⟨_, rfl⟩
  rw [hk0] at c0; rw [hn0] at c1; rw [hm0] at c2
  have HK := Lib.hid hk0; have HN := Lib.hid hn0; have HM := Lib.hid hm0; have HT := Lib.hid hty
  clear hk0 hn0 hm0 hty
  refine callsIn_of_wp Try.func136 rfl trivial ?_ rfl
  simp only [Try.ntmps136, List.size_toArray, List.length_cons, List.length_nil, Nat.reduceAdd, Nat.reduceSub, Array.replicate_succ, Array.replicate_zero, List.push_toArray, List.append_toArray, List.nil_append, List.cons_append]
  gi_wp2
  have hw0 := stk_start HT.out hn₀
  rw [HK.out, HN.out, HM.out] at hw0
  have HS := Lib.hid hw0; clear hw0
  gi_loopg [3] (Tp.size t) (fun gk v wr => ∃ M R pre, Stk (fun b => b < n₀ ∨ b = W.heap.size) t (W.heap.size + 1) M R pre v wr ∧ J M pre wr ∧ (∀ k, M k → W.heap.size ≤ k ∧ k < wr.heap.size) ∧ M W.heap.size ∧ W.heap.size + 1 ≤ wr.heap.size ∧ gk = (todo R).length)
  case atStart =>
    refine ⟨_, _, _, HS.out, HJ.out [] _ _ W _ h0 (fun _ h => h.elim) ((Turns.alloc _ _ _).trans (Turns.alloc _ _ _)) (fun k hk => ⟨.inr (by omega), by simp; omega⟩), fun k hk => ⟨by omega, by simp; omega⟩, .inl rfl, by simp, by simp [todo, Tp.pres_length, Tp.sizes]⟩
  case round =>
    obtain ⟨M, R, pre, hS, hj, hM, hMB, hbs, rfl⟩ := hrel
    have HS' := Lib.hid hS; have HJ' := Lib.hid hj; have HM' := Lib.hid hM; have HMB := Lib.hid hMB; have HB := Lib.hid hbs
    clear HS hS hj hM hMB hbs
    cases R with
    | nil =>
      obtain ⟨av, cv, rfl⟩ := own_shapeT HS'.out.own
      gi_wp2
      go_end0
      exact ⟨⟨_, rfl⟩, .inl ⟨M, pre, by have := HS'.out.todo; simpa [todo, ndAll] using this, HJ'.out, HM'.out⟩⟩
    | cons e R =>
      obtain ⟨g, cap, rfl, hg1, hg2, hcp, hcm, h0, h1, hown⟩ := own_top (v := u3) HS'.out.own
      have hgood := HS'.out.each e (by simp)
      obtain ⟨hne, hsl, hdd⟩ := id hgood
      obtain ⟨ts, ea, ecap, d⟩ := e
      dsimp only at h0 h1 hne hsl hdd hgood
      cases ts with
      | nil => exact absurd rfl hne
      | cons x rs =>
        obtain ⟨hl1, hl2, hl3⟩ := hsl
        obtain ⟨b, o, rfl, hGb, hnode, htail⟩ := hl3.head
        obtain ⟨xa, xcap, hxty, x0, x1, x2⟩ := hnode.ty
        obtain ⟨xk, hxk⟩ : ∃ y, x.kind = y := ⟨_, rfl⟩
        obtain ⟨xn, hxn⟩ : ∃ y, x.num = y := ⟨_, rfl⟩
        obtain ⟨xm, hxm⟩ : ∃ y, x.kids.length = y := ⟨_, rfl⟩
        obtain ⟨rm, hrm⟩ : ∃ y, rs.length = y := ⟨_, rfl⟩
        obtain ⟨r, hr⟩ : ∃ y, R.length = y := ⟨_, rfl⟩
        rw [hr] at h0 h1 hcp hown ⊢
        rw [hxk] at x0; rw [hxn] at x1; rw [hxm] at x2
        rw [List.length_cons, hrm] at h0
        have hR : r ≤ 10000 := by have := HS'.out.len; rw [List.length_cons, hr] at this; exact Nat.le_trans (Nat.le_of_succ_le this) hsz
        have hbB : b < wr.heap.size := cell_lt x0
        have HMU := Lib.hid (show ∀ k, (M k ∨ k = wr.heap.size ∨ k = wr.heap.size + 1) → W.heap.size ≤ k ∧ k < wr.heap.size + 2 from fun k hk => by
          rcases hk with h | h
          · have := HM'.out k h; omega
          · have := HB.out; omega)
        have HTW := Lib.hid (show Turns (fun _ => False) wr ((wr.alloc (.cells #[.slice (some ⟨b, o, none⟩) (rm + 1) ecap, .int .i64 (d : Int)] 184)).alloc (.cells #[.int .i64 xk, .int .i64 xn, .slice xa xm xcap] 26)) from (Turns.alloc _ _ _).trans (Turns.alloc _ _ _))
        obtain ⟨fn, tmps, assign, body, hy, hRd⟩ := HY.out (fun k => M k ∨ k = wr.heap.size ∨ k = wr.heap.size + 1) pre ⟨x, d, xa, xcap⟩ ((wr.alloc (.cells #[.slice (some ⟨b, o, none⟩) (rm + 1) ecap, .int .i64 (d : Int)] 184)).alloc (.cells #[.int .i64 xk, .int .i64 xn, .slice xa xm xcap] 26))
          (HJ.out pre M _ wr _ HJ'.out HM'.out ((Turns.alloc _ _ _).trans (Turns.alloc _ _ _)) (fun k hk => ⟨hk.elim .inl (fun h => .inr (by omega)), by simp; exact (HMU.out k hk).2⟩)) (fun k hk => ⟨(HMU.out k hk).1, by simp; exact (HMU.out k hk).2⟩) (by have := HB.out; simp; omega) (nd_ok HS'.out hxty hsz)
        simp only [ndEnc, tv, hxk, hxn, hxm] at hy
        have HXK := Lib.hid hxk; have HXN := Lib.hid hxn; have HXM := Lib.hid hxm; have HRM := Lib.hid hrm; have HR := Lib.hid hr; have HNE := Lib.hid hne; have HDD := Lib.hid hdd; have HXTY := Lib.hid hxty; have HTAIL := Lib.hid htail; have HOWN := Lib.hid hown; have HL := Lib.hid hl3; have HGOOD := Lib.hid hgood; have HGB := Lib.hid hGb; have HND := Lib.hid hnode
        clear hxk hxn hxm hrm hr hne hdd hxty htail hown hl3 hGb hnode hgood
        have HCP := Lib.hid hcp; have HCM := Lib.hid hcm; have HG1 := Lib.hid hg1; have HG2 := Lib.hid hg2; have HL1 := Lib.hid hl1; have HL2 := Lib.hid hl2; have HRR := Lib.hid hR
        gi_wp2
        refine hRd.mono ?_
        rintro e W3 (⟨rfl, hJ3, hT3⟩ | ⟨rfl, hJx3, hs3⟩)
        · have HS3 := Lib.hid (show wr.heap.size + 2 ≤ W3.heap.size from by have := hT3.size; simpa using this)
          have hblk : ∀ k, (k < n₀ ∨ M k) → W3.heap[k]? = wr.heap[k]? := fun k hk => by
            have hlt : k < wr.heap.size := hk.elim (fun h => Nat.lt_of_lt_of_le h (Nat.le_trans hn₀ (Nat.le_of_succ_le HB.out))) (fun h => (HM'.out k h).2)
            exact (hT3.block k (by simp; omega) (fun h => hk.elim (fun h' => absurd h.1 (Nat.not_le.2 h')) (fun h' => h.2 (.inl h')))).trans (HTW.out.block k hlt (fun h => h))
          have s5 := hT3.block _ (by simp; omega) (fun h => h.2 (.inr (.inl rfl)))
          have s6 := hT3.block _ (by simp) (fun h => h.2 (.inr (.inr rfl)))
          have d0 : W3.cell? ⟨wr.heap.size, 0, none⟩ = some (.slice (some ⟨b, o, none⟩) (rm + 1) ecap) := cell_box (box1 _ _ _ _ _) s5 rfl
          have d1 : W3.cell? ⟨wr.heap.size, 1, none⟩ = some (.int .i64 (d : Int)) := cell_box (box1 _ _ _ _ _) s5 rfl
          have d2 : W3.cell? ⟨wr.heap.size + 1, 2, none⟩ = some (.slice xa xm xcap) := cell_box (box2 _ _ _ _ _) s6 rfl
          clear s5 s6
          have hown3 : W3.ownsRow (W.heap.size + 1) 184 2 (.slice (some ⟨g, 0, none⟩) r cap) r (stCells R.reverse) := own_same HOWN.out (fun y hy => hblk y (.inr (by injection hy with hy; subst hy; exact HS'.out.mine _ rfl)))
          have fin : ∀ (E : List Ent) (v5 : Value) (W5 : World), Turns (fun k => M k ∨ k = wr.heap.size ∨ k = wr.heap.size + 1) W3 W5 → (∀ k, (k < n₀ ∨ k = W.heap.size) → W5.heap[k]? = wr.heap[k]?) →
            (∀ e ∈ E, e.good (fun b => b < n₀ ∨ b = W.heap.size) W5 t) → todo E = Tp.pres x.kids (d + 1) ++ Tp.pres rs d → W5.ownsRow (W.heap.size + 1) 184 2 v5 (E ++ R).length (stCells (E ++ R).reverse) → (∀ y, v5.ownBlock = some y → y = g ∨ W3.heap.size ≤ y) →
            (todo (E ++ R)).length < (todo (⟨x :: rs, some ⟨b, o, none⟩, ecap, d⟩ :: R)).length ∧ (∃ M R' pre', Stk (fun b => b < n₀ ∨ b = W.heap.size) t (W.heap.size + 1) M R' pre' v5 W5 ∧ J M pre' W5 ∧ (∀ k, M k → W.heap.size ≤ k ∧ k < W5.heap.size) ∧ M W.heap.size ∧ W.heap.size + 1 ≤ W5.heap.size ∧ (todo (E ++ R)).length = (todo R').length) := by
            intro E v5 W5 q1 q2 q3 q4 q5 q6
            exact round_end HJ.out HS'.out hJ3 (fun k hk => ⟨(HMU.out k hk).1, Nat.lt_of_lt_of_le (HMU.out k hk).2 HS3.out⟩) (Nat.le_trans HB.out (by have := HS3.out; omega)) (.inl HMB.out) (.inl (HS'.out.mine _ rfl)) q1 q2 q3 q4 q5 q6
          have hpop := st_pop g (r + 1) cap r (by omega) hcp
          have HOWN3 := Lib.hid hown3
          clear h0 h1 x0 x1 x2 hown3
          have HBLK := Lib.hid hblk; clear hblk
          have hd0 : (0 : Int) ≤ d := Int.natCast_nonneg _
          have HF := Lib.hid (fin : ∀ (E : List Ent) (v5 : Value) (W5 : World), Turns (fun k => M k ∨ k = wr.heap.size ∨ k = wr.heap.size + 1) W3 W5 → (∀ k, (k < n₀ ∨ k = W.heap.size) → W5.heap[k]? = wr.heap[k]?) →
            (∀ e ∈ E, e.good (fun b => b < n₀ ∨ b = W.heap.size) W5 t) → todo E = Tp.pres x.kids (d + 1) ++ Tp.pres rs d → W5.ownsRow (W.heap.size + 1) 184 2 v5 (E ++ R).length (stCells (E ++ R).reverse) → (∀ y, v5.ownBlock = some y → y = g ∨ W3.heap.size ≤ y) →
            (todo (E ++ R)).length < (todo (⟨x :: rs, some ⟨b, o, none⟩, ecap, d⟩ :: R)).length ∧ (∃ M R' pre', Stk (fun b => b < n₀ ∨ b = W.heap.size) t (W.heap.size + 1) M R' pre' v5 W5 ∧ J M pre' W5 ∧ (∀ k, M k → W.heap.size ≤ k ∧ k < W5.heap.size) ∧ M W.heap.size ∧ W.heap.size + 1 ≤ W5.heap.size ∧ (todo (E ++ R)).length = (todo R').length))
          clear fin
          obtain ⟨hr10, hr20, hr30, hr40⟩ := b32 HRR.out
          have hb3 : W.heap.size + 1 ≤ W3.heap.size := Nat.le_trans HB.out (Nat.le_trans (by simp; omega) hT3.size)
          have HL3 := Lib.hid hr10; have HL4 := Lib.hid hr20; have HL5 := Lib.hid hr30; have HL6 := Lib.hid hr40; have HB3 := Lib.hid hb3
          clear hr10 hr20 hr30 hr40 hb3
          have hd10 : (d : Int) ≤ 10001 := d_bound HDD.out hsz
          have HG3 := Lib.hid (show ∀ k, (k < n₀ ∨ k = W.heap.size) → W3.heap[k]? = wr.heap[k]? from fun k h => HBLK.out k (h.elim .inl fun h => .inr (by rw [h]; exact HMB.out)))
          have HGL := Lib.hid (show ∀ k, (k < n₀ ∨ k = W.heap.size) → k < W3.heap.size from fun k h => lt_G hn₀ HB3.out h)
          have HGN := Lib.hid (show ¬ (g < n₀ ∨ g = W.heap.size) from not_G HG1.out hn₀)
          have HSM := Lib.hid (show ∀ (w1 : World) (o' : Obj), (W3.alloc o').grownBy w1 (some g) → w1.heap[wr.heap.size + 1]? = W3.heap[wr.heap.size + 1]? from fun w1 o' h => far_block h (Nat.lt_of_lt_of_le (by simp) hT3.size) (by have := HG2.out; omega))
          have HSN := Lib.hid (show ∀ (w1 : World) (o' : Obj), (W3.alloc o').grownBy w1 (some g) → w1.heap[wr.heap.size]? = W3.heap[wr.heap.size]? from fun w1 o' h => far_block h (Nat.lt_of_lt_of_le (by simp; omega) hT3.size) (by have := HG2.out; omega))
          have HMG := Lib.hid (show M g from HS'.out.mine g rfl)
          have HLE := Lib.hid (show rm + 1 ≤ ecap from by have := HL1.out; rw [List.length_cons, HRM.out] at this; exact this)
          obtain ⟨i0, hi, hz0, hz1, hz2⟩ := info_parts info_st
          have tl : rs ≠ [] → Ent.good (fun b => b < n₀ ∨ b = W.heap.size) wr t ⟨rs, some ⟨b, o + 3, none⟩, ecap - 1, d⟩ := fun h => good_tail (fun _ _ => rfl) HGOOD.out h
          have tk : x.kids ≠ [] → Ent.good (fun b => b < n₀ ∨ b = W.heap.size) wr t ⟨x.kids, xa, xcap, d + 1⟩ := fun h => good_kids (fun _ _ => rfl) HGOOD.out HXTY.out h
          have TL := Lib.hid tl; have TK := Lib.hid tk; clear tl tk
          rcases Nat.eq_zero_or_pos rm with hz | hz
          · have hrs : rs = [] := List.eq_nil_of_length_eq_zero (by rw [HRM.out]; exact hz)
            subst hz
            rcases Nat.eq_zero_or_pos xm with hm | hm
            · have hks : x.kids = [] := List.eq_nil_of_length_eq_zero (by rw [HXM.out]; exact hm)
              have F := HF.out [] (.slice (some ⟨g, 0, none⟩) r cap) W3 (Turns.refl _ _) (fun k h => HBLK.out k (h.elim .inl fun h => .inr (by rw [h]; exact HMB.out))) (fun _ h => by cases h) (by rw [hrs, hks]; rfl) (by rw [List.nil_append, HR.out]; exact HOWN3.out) (fun y h => by injection h with h; exact .inl h.symm)
              have FF := Lib.hid F; clear F
              subst hm
              clear hks hrs hi hz0 hz1 hz2
              gi_wp2
              gi_roundg (todo R).length
              case measure => exact FF.out.1
              case rel => exact FF.out.2
            · have HRS := Lib.hid hrs; clear hrs
              have hks : x.kids ≠ [] := List.length_pos_iff.1 (by rw [HXM.out]; exact hm)
              have GD := Lib.hid (TK.out hks)
              clear hks
              gi_wp2_with (gi_at_builtin; refine wpListIn_append_lies _ rfl (.tmp 51) (.tmp 58) 185 rfl (W.heap.size + 1) 184 i0 (.agg #[.slice none 0 0, .int .i64 0]) 2 32 Try.underlying185 hi hz0 hz1 hz2 rfl (by decide) (.slice (some ⟨g, 0, none⟩) r cap) r (stCells R.reverse) rfl (HOWN3.out.alloc _) ⟨W3.heap.size, 0, none⟩ 1 1 [.slice xa xm xcap, .int .i64 ((d : Int) + 1)] rfl rfl (World.news_of_block (World.alloc_heap_new W3 _)) (two_cells _ _ _ _) (by decide) HL5.out HL3.out (Nat.le_trans HB3.out (by simp)) ?_; intro g1 cap1 w1 hown1 hgr1 hly1)
              have F := HF.out [⟨x.kids, xa, xcap, d + 1⟩] (.slice (some ⟨g1, 0, none⟩) (r + 1) cap1) w1 (push_turns (Turns.refl _ _) hgr1 (fun k hk _ => by cases hk; exact .inl HMG.out)) (push_same HG3.out HGL.out hgr1 (fun k hk => by cases hk; exact HGN.out))
                (by intro e he; obtain rfl := List.mem_singleton.1 he; exact good_same (push_same HG3.out HGL.out hgr1 (fun k hk => by cases hk; exact HGN.out)) GD.out) (by rw [HRS.out]; simp [todo, Tp.pres])
                (by rw [List.singleton_append, List.length_cons, List.reverse_cons, stCells_snoc, HR.out]; simp only [entCells, HXM.out, Int.natCast_add]; exact hown1) (fun y hy => by injection hy with hy; subst hy; exact lies_at hly1)
              gi_roundg (todo ([⟨x.kids, xa, xcap, d + 1⟩] ++ R)).length
              case measure => exact F.1
              case rel => exact F.2
          · have hrs : rs ≠ [] := List.length_pos_iff.1 (by rw [HRM.out]; exact hz)
            have GR := Lib.hid (TL.out hrs); clear hrs
            have htl := list_tail b o (rm + 1) ecap (by omega) HLE.out
            rw [Nat.add_sub_cancel] at htl
            rcases Nat.eq_zero_or_pos xm with hm | hm
            · have hks : x.kids = [] := List.eq_nil_of_length_eq_zero (by rw [HXM.out]; exact hm)
              subst hm
              have HKS := Lib.hid hks; clear hks
              gi_upto_region 8 with fail
              refine wpIn_wide.2 ?_
              go_region_law (first | (refine step_append_lies _ ?_ (.tmp 38) (.tmp 45) 185 ?_ (W.heap.size + 1) 184 i0 (.agg #[.slice none 0 0, .int .i64 0]) 2 32 Try.underlying185 hi hz0 hz1 hz2 ?_ ?_ (.slice (some ⟨g, 0, none⟩) r cap) r (stCells R.reverse) ?_ ?_ ⟨W3.heap.size, 0, none⟩ 1 1 [.slice (some ⟨b, o + 3, none⟩) rm (ecap - 1), .int .i64 (d : Int)] ?_ ?_ ?_ ?_ ?_ ?_ ?_ ?_ (W3.heap.size + 1) ?_ ?_; (· rfl); (· rfl); (· rfl); (· decide); (· rfl); (· exact HOWN3.out.alloc _); (· rfl); (· rfl); (· exact World.news_of_block (World.alloc_heap_new W3 _)); (· exact two_cells _ _ _ _); (· decide); (· exact HL5.out); (· exact HL3.out); (· exact Nat.le_trans HB3.out (by simp)); (· simp); intro g1 cap1 w1 hown1 hgr1 hly1 _))
              all_goals
                have hgr := undrew hgr1
                have F := HF.out [⟨rs, some ⟨b, o + 3, none⟩, ecap - 1, d⟩] (.slice (some ⟨g1, 0, none⟩) (r + 1) cap1) w1 (push_turns (Turns.refl _ _) hgr (fun k hk _ => by cases hk; exact .inl HMG.out)) (push_same HG3.out HGL.out hgr (fun k hk => by cases hk; exact HGN.out))
                  (by intro e he; obtain rfl := List.mem_singleton.1 he; exact good_same (push_same HG3.out HGL.out hgr (fun k hk => by cases hk; exact HGN.out)) GR.out) (by rw [HKS.out]; simp [todo, Tp.pres])
                  (by rw [List.singleton_append, List.length_cons, List.reverse_cons, stCells_snoc, HR.out]; simp only [entCells, HRM.out]; exact hown1) (fun y hy => by injection hy with hy; subst hy; exact lies_at' hly1)
                have FF := Lib.hid F
                have d2' : w1.cell? ⟨wr.heap.size + 1, 2, none⟩ = some (.slice xa 0 xcap) := (World.cell?_of_block (w := W3) (a := ⟨wr.heap.size + 1, 2, none⟩) (HSM.out w1 _ hgr)).trans d2
                clear F hgr hgr1 hly1 hown1 d0 d1 d2 hpop htl hi hz0 hz1 hz2
                gi_wp2
                gi_roundg (todo ([⟨rs, some ⟨b, o + 3, none⟩, ecap - 1, d⟩] ++ R)).length
                case measure => exact FF.out.1
                case rel => exact FF.out.2
            · have hks : x.kids ≠ [] := List.length_pos_iff.1 (by rw [HXM.out]; exact hm)
              have GD := Lib.hid (TK.out hks)
              clear hks
              gi_upto_region 8 with fail
              refine wpIn_wide.2 ?_
              go_region_law (first | (refine step_append_lies _ ?_ (.tmp 38) (.tmp 45) 185 ?_ (W.heap.size + 1) 184 i0 (.agg #[.slice none 0 0, .int .i64 0]) 2 32 Try.underlying185 hi hz0 hz1 hz2 ?_ ?_ (.slice (some ⟨g, 0, none⟩) r cap) r (stCells R.reverse) ?_ ?_ ⟨W3.heap.size, 0, none⟩ 1 1 [.slice (some ⟨b, o + 3, none⟩) rm (ecap - 1), .int .i64 (d : Int)] ?_ ?_ ?_ ?_ ?_ ?_ ?_ ?_ (W3.heap.size + 1) ?_ ?_; (· rfl); (· rfl); (· rfl); (· decide); (· rfl); (· exact HOWN3.out.alloc _); (· rfl); (· rfl); (· exact World.news_of_block (World.alloc_heap_new W3 _)); (· exact two_cells _ _ _ _); (· decide); (· exact HL5.out); (· exact HL3.out); (· exact Nat.le_trans HB3.out (by simp)); (· simp); intro g1 cap1 w1 hown1 hgr1 hly1 _))
              all_goals
                have hgr := undrew hgr1
                have hT1 := push_turns (M := fun k => M k ∨ k = wr.heap.size ∨ k = wr.heap.size + 1) (Turns.refl _ _) hgr (fun k hk _ => by cases hk; exact .inl HMG.out)
                have hS1 := push_same HG3.out HGL.out hgr (fun k hk => by cases hk; exact HGN.out)
                have hL1 : ∀ k, (k < n₀ ∨ k = W.heap.size) → k < w1.heap.size := fun k h => Nat.lt_of_lt_of_le (HGL.out k h) hT1.size
                have hg11 := lies_at' hly1
                have HT1 := Lib.hid hT1; have HS1 := Lib.hid hS1; have HL1' := Lib.hid hL1; have HG11 := Lib.hid hg11; have HOWN4 := Lib.hid hown1
                have HB4 := Lib.hid (Nat.le_trans HB3.out hT1.size)
                have d2' : w1.cell? ⟨wr.heap.size + 1, 2, none⟩ = some (.slice xa xm xcap) := (World.cell?_of_block (w := W3) (a := ⟨wr.heap.size + 1, 2, none⟩) (HSM.out w1 _ hgr)).trans d2
                have d1' : w1.cell? ⟨wr.heap.size, 1, none⟩ = some (.int .i64 (d : Int)) := (World.cell?_of_block (w := W3) (a := ⟨wr.heap.size, 1, none⟩) (HSN.out w1 _ hgr)).trans d1
                clear hT1 hS1 hL1 hg11 hgr hgr1 hly1 hown1 d0 d1 d2 hpop htl
                gi_wp2_with (gi_at_builtin; refine wpListIn_append_lies _ rfl (.tmp 51) (.tmp 58) 185 rfl (W.heap.size + 1) 184 i0 (.agg #[.slice none 0 0, .int .i64 0]) 2 32 Try.underlying185 hi hz0 hz1 hz2 rfl (by decide) (.slice (some ⟨g1, 0, none⟩) (r + 1) cap1) (r + 1) (stCells R.reverse ++ [.slice (some ⟨b, o + 3, none⟩) rm (ecap - 1), .int .i64 (d : Int)]) rfl (HOWN4.out.alloc _) ⟨w1.heap.size, 0, none⟩ 1 1 [.slice xa xm xcap, .int .i64 ((d : Int) + 1)] rfl rfl (World.news_of_block (World.alloc_heap_new w1 _)) (two_cells _ _ _ _) (by decide) HL6.out HL4.out (Nat.le_trans HB4.out (by simp)) ?_; intro g2 cap2 w2 hown2 hgr2 hly2)
                have hg1n : ¬ (g1 < n₀ ∨ g1 = W.heap.size) := by
                  rcases HG11.out with h | h
                  · rw [h]; exact HGN.out
                  · exact fun h' => by have := HGL.out g1 h'; omega
                have hS2 := push_same HS1.out HL1'.out hgr2 (fun k hk => by cases hk; exact hg1n)
                have F := HF.out [⟨x.kids, xa, xcap, d + 1⟩, ⟨rs, some ⟨b, o + 3, none⟩, ecap - 1, d⟩] (.slice (some ⟨g2, 0, none⟩) (r + 1 + 1) cap2) w2 (push_turns HT1.out hgr2 (fun k hk h => by injection hk with hk; subst hk; exact HG11.out.elim (fun h' => .inl (by have := HMG.out; rw [← h'] at this; exact this)) (fun h' => absurd h (Nat.not_lt.2 h')))) hS2
                  (List.forall_mem_cons.2 ⟨good_same hS2 GD.out, List.forall_mem_cons.2 ⟨good_same hS2 GR.out, fun _ h => by cases h⟩⟩) (by simp [todo])
                  (by simp only [List.cons_append, List.nil_append, List.length_cons, List.reverse_cons, stCells_snoc, HR.out, entCells, HRM.out, HXM.out, Int.natCast_add]; exact hown2) (fun y hy => by injection hy with hy; subst hy; exact lies2 (lies_at hly2) HG11.out HT1.out.size)
                gi_roundg (todo ([⟨x.kids, xa, xcap, d + 1⟩, ⟨rs, some ⟨b, o + 3, none⟩, ecap - 1, d⟩] ++ R)).length
                case measure => exact F.1
                case rel => exact F.2
        · gi_wp2
          refine bodyPost_ret (results_none rfl _ _ _) rfl ?_
          exact ⟨⟨_, rfl⟩, .inr ⟨_, _, hJx3, fun k hk => ⟨(HMU.out k hk).1, Nat.lt_of_lt_of_le (HMU.out k hk).2 (Nat.le_trans (by simp) hs3)⟩⟩⟩
end Go.Proofs.Yteolbbgnkbcfmaa
namespace Go.Proofs.Yteolbbgnkbcfmaa
open Go Go.RowKit Go.Shelf
open Tp (T)

attribute [local go_sem] Oper.semAt_some

/-- The iterator's contract. -/
theorem nodes_seq (t : T) (hsz : Tp.size t ≤ 10000) (n₀ Bt : Nat) (a0 : Option Addr) (cap0 : Nat) (w : World) (hn₀ : n₀ ≤ w.heap.size) (hty : TyAt (LT n₀) w t a0 cap0) (hb : w.heap[Bt]? = some (.cells #[.int .i64 t.kind, .int .i64 t.num, .slice a0 t.kids.length cap0] 26)) :
    SeqMine Try.prog 136 #[.pointer (some ⟨Bt, 0, none⟩)] ndEnc (ndAll t) (ndOk t) n₀ w := fun l J Jx W hW hJ hJx hY h0 => by
  have hlt : Bt < w.heap.size := (Array.getElem?_eq_some_iff.1 hb).1
  have hb' := hW.block Bt hlt
  exact callsIn_wide.1 (nodes_walk t hsz n₀ Bt l a0 cap0 J Jx W hJ hJx hY h0 (Nat.le_trans hn₀ hW.size) (hty.below hW (fun b h => Nat.lt_of_lt_of_le h hn₀) (fun _ h => h)) (cell_box hb hb' rfl) (cell_box hb hb' rfl) (cell_box hb hb' rfl))

theorem nd_len {t : T} {pre : List Nd} {x : Nd} (h : ndOk t pre x) (ht : Tp.size t ≤ 10000) : (pre.length : Int) ≤ 10000 := by
  obtain ⟨⟨rest, hr⟩, _⟩ := h
  have := congrArg List.length hr
  rw [List.length_append, List.length_map, List.length_cons, Tp.pre_length] at this
  omega

set_option maxHeartbeats 1000000 in
theorem nodes_any (t : T) (a : Option Addr) (cap : Nat) (w : World) :
    Calls Try.prog 126 #[tv t a cap] w fun e w' => e = .returned (.func (.func 136) #[] #[.pointer (some ⟨w.heap.size, 0, none⟩)]) ∧ w' = w.alloc (.cells #[.int .i64 t.kind, .int .i64 t.num, .slice a t.kids.length cap] 26) := by
  unfold tv
  go_enter Try.func126, Try.ntmps126
  go_wp2
  go_ret
  exact ⟨rfl, rfl⟩

end Go.Proofs.Yteolbbgnkbcfmaa
namespace Go.Proofs.Yteolbbgnkbcfmaa
open Go Go.RowKit Go.Shelf
open Tp (T)

attribute [local go_sem] Oper.semAt_some

/-- The number that a right one has, and one that is not. -/
def errOf (b : Bool) : Int := if b = true then 0 else 1
theorem keys_snoc (pre : List Nd) (x : Nd) : (pre ++ [x]).map Nd.key = pre.map Nd.key ++ [(x.t, x.d)] := by simp [Nd.key]

set_option maxRecDepth 100000 in
set_option maxHeartbeats 2000000 in
theorem has_any (t : T) (a : Option Addr) (cap : Nat) (q : Int) (w : World) (hsz : Tp.size t ≤ 10000) (hty : TyAt (LT w.heap.size) w t a cap) :
    Calls Try.prog 132 #[tv t a cap, .int .i64 q] w fun e w' => e = .returned (.bool (!Tp.without q t)) ∧ Below w.heap.size w w' := by
  refine callsIn_wide (n := 9) |>.1 ?_
  have HTY := Lib.hid hty; clear hty
  obtain ⟨k0, hk0⟩ : ∃ k0, t.kind = k0 := ⟨_, rfl⟩
  obtain ⟨n0, hn0⟩ : ∃ n0, t.num = n0 := ⟨_, rfl⟩
  obtain ⟨m0, hm0⟩ : ∃ m0, t.kids.length = m0 := ⟨_, rfl⟩
  unfold tv
  have h30 := fun w => nodes_any t a cap w
  unfold tv at h30
  rw [hk0, hn0, hm0] at h30 ⊢
  have HK := Lib.hid hk0; have HN := Lib.hid hn0; have HM := Lib.hid hm0; have H30 := Lib.hid h30
  clear hk0 hn0 hm0 h30
  refine callsIn_of_wp_marks Try.func132 rfl trivial ?_ rfl
  simp only [Try.ntmps132, List.size_toArray, List.length_cons, List.length_nil, Nat.reduceAdd, Nat.reduceSub, Array.replicate_succ, Array.replicate_zero, List.push_toArray, List.append_toArray, List.nil_append, List.cons_append]
  gi_wp2_with (refine ⟨trivial, ?_⟩; gi_at_call 126; refine (callsIn_wide.2 (H30.out _)).mono ?_; rintro e w' ⟨rfl, rfl⟩)
  have hb0 : Below w.heap.size w ((((w.alloc (.cells #[.int .i64 k0, .int .i64 n0, .slice a m0 cap] 26)).alloc (.cells #[.int .i64 q] 3)).alloc (.cells #[.bool false] 4)).alloc (.cells #[.int .i64 k0, .int .i64 n0, .slice a m0 cap] 26)) := ((((Below.refl _ _).alloc (Nat.le_refl _) _).alloc (by simp) _).alloc (by simp <;> omega) _).alloc (by simp <;> omega) _
  have hbq : ((((w.alloc (.cells #[.int .i64 k0, .int .i64 n0, .slice a m0 cap] 26)).alloc (.cells #[.int .i64 q] 3)).alloc (.cells #[.bool false] 4)).alloc (.cells #[.int .i64 k0, .int .i64 n0, .slice a m0 cap] 26)).heap[w.heap.size + 1]? = some (.cells #[.int .i64 q] 3) := (Below.heap_alloc _ _ _ (by simp <;> omega)).trans ((Below.heap_alloc _ _ _ (by simp)).trans (box2 _ _ _ _ _))
  have hbr : ((((w.alloc (.cells #[.int .i64 k0, .int .i64 n0, .slice a m0 cap] 26)).alloc (.cells #[.int .i64 q] 3)).alloc (.cells #[.bool false] 4)).alloc (.cells #[.int .i64 k0, .int .i64 n0, .slice a m0 cap] 26)).heap[w.heap.size + 1 + 1]? = some (.cells #[.bool false] 4) := (Below.heap_alloc _ _ _ (by simp)).trans (by have := World.alloc_heap_new ((w.alloc (.cells #[.int .i64 k0, .int .i64 n0, .slice a m0 cap] 26)).alloc (.cells #[.int .i64 q] 3)) (.cells #[.bool false] 4); simpa using this)
  refine wpIn_range_mine (gf := 136) (lb := #[.pointer (some ⟨w.heap.size + 1 + 1 + 1, 0, none⟩)]) rfl (enters_of Try.func136 (by kernel_rfl) rfl)
    (nodes_seq t hsz w.heap.size (w.heap.size + 1 + 1 + 1) a cap _ hb0.size (HTY.out.below hb0 (fun _ h => h) (fun _ h => h)) (by rw [HK.out, HN.out, HM.out]; have := World.alloc_heap_new (((w.alloc (.cells #[.int .i64 k0, .int .i64 n0, .slice a m0 cap] 26)).alloc (.cells #[.int .i64 q] 3)).alloc (.cells #[.bool false] 4)) (.cells #[.int .i64 k0, .int .i64 n0, .slice a m0 cap] 26); simpa using this))
    (Below.refl _ _) hb0.size (fun _ => rfl)
    (fun M pre W => (W.heap[w.heap.size + 1]? = some (.cells #[.int .i64 q] 3) ∧ ¬ M (w.heap.size + 1)) ∧ ((W.heap[w.heap.size + 1 + 1]? = some (.cells #[.bool false] 4) ∧ ¬ M (w.heap.size + 1 + 1)) ∧ (Below w.heap.size w W ∧ (pre.map Nd.key).all (fun y => !decide (y.1.kind = q)) = true)))
    (fun c M _ W => (W.heap[w.heap.size + 1 + 1]? = some (.cells #[.bool true] 4) ∧ ¬ M (w.heap.size + 1 + 1)) ∧ (Below w.heap.size w W ∧ (c = .ret ∧ Tp.without q t = false)))
    (fun x a' M W => ∃ B, (W.heap[B]? = some (.cells #[.int .i64 x.t.kind, .int .i64 x.t.num, .slice x.a x.t.kids.length x.cap] 26) ∧ ¬ M B) ∧ a' = { tmps := #[.agg #[.int .i64 k0, .int .i64 n0, .slice a m0 cap], .int .i64 q, .pointer (some ⟨w.heap.size, 0, none⟩), .pointer (some ⟨w.heap.size + 1, 0, none⟩), .pointer (some ⟨w.heap.size + 1 + 1, 0, none⟩), .pointer (some ⟨B, 0, none⟩), .agg #[.int .i64 k0, .int .i64 n0, .slice a m0 cap], .func (.func 136) #[] #[.pointer (some ⟨w.heap.size + 1 + 1 + 1, 0, none⟩)], tv x.t x.a x.cap, .int .i64 (x.d : Int), undef, undef, undef, undef], defers := [] })
    (fun s => Ab.and (Ab.block _ _ _) (Ab.and (Ab.block _ _ _) (Ab.and (Ab.below hb0.size w (Nat.le_refl _)) (Ab.pure _ _)))) (fun _ _ => Ab.and (Ab.block _ _ _) (Ab.and (Ab.below hb0.size w (Nat.le_refl _)) (Ab.pure _ _))) (fun _ _ => Ab.ex fun B => Ab.and (Ab.block _ _ _) (Ab.pure _ _)) ⟨⟨hbq, fun h => h⟩, ⟨hbr, fun h => h⟩, hb0, rfl⟩ ?assign ?body ?done ?stop
  case assign =>
    intro l M pre x W K hi hM hok hK
    simp only [ndEnc, tv]
    clear hb0 hbq hbr hi
    gi_wp2
    refine hK _ _ (Turns.alloc _ _ _) ⟨W.heap.size, ⟨World.alloc_heap_new _ _, fun h => by have := (hM _ h).2; omega⟩, ?_⟩
    simp [tv]
  case body =>
    rintro l M pre x a' W ⟨⟨hq, hqM⟩, ⟨hr, hrM⟩, hbl, hall⟩ hM hle hok ⟨B, ⟨hB, hBM⟩, rfl⟩
    have HOK := Lib.hid hok; have HALL := Lib.hid hall; have HBL := Lib.hid hbl; have HRM := Lib.hid hrM; have HQM := Lib.hid hqM
    have cq : W.cell? ⟨w.heap.size + 1, 0, none⟩ = some (.int .i64 q) := cell_box hq rfl rfl
    have cr : W.cell? ⟨w.heap.size + 1 + 1, 0, none⟩ = some (.bool false) := cell_box hr rfl rfl
    have fr : W.frozen? ⟨w.heap.size + 1 + 1, 0, none⟩ = false := Boxed.frozen hr
    have cB : W.cell? ⟨B, 0, none⟩ = some (.int .i64 x.t.kind) := cell_box hB rfl rfl
    have HQ := Lib.hid hq; have HR := Lib.hid hr
    clear hq hr hB hqM hrM hBM hM hle hok hall hbl hb0 hbq hbr
    obtain ⟨xk, hxk⟩ : ∃ xk, x.t.kind = xk := ⟨_, rfl⟩
    rw [hxk] at cB
    have HXK := Lib.hid hxk; clear hxk
    by_cases hkq : xk = q
    · have hkq' : (xk == q) = true := by simp [hkq]
      have hw : Tp.without q t = false := by
        obtain ⟨⟨rest, hrest⟩, _⟩ := HOK.out
        have := Tp.pre_without q t 1
        rw [← this, ← hrest, List.all_append, List.all_cons]
        simp [Nd.key, HXK.out, hkq]
      have HW := Lib.hid hw; clear hw
      have HKQ := Lib.hid hkq; clear hkq
      gi_wp2
      exact ⟨Turns.setCell _ _ _ ⟨by simp; omega, HRM.out⟩, ⟨Boxed.set _ HR.out, HRM.out⟩, HBL.out.setCell (by simp <;> omega) _, rfl, HW.out⟩
    · have hkq' : (xk == q) = false := by simp [hkq]
      have HKQ := Lib.hid hkq; clear hkq
      gi_wp2
      refine ⟨Turns.refl _ _, ⟨HQ.out, HQM.out⟩, ⟨HR.out, HRM.out⟩, HBL.out, ?_⟩
      rw [keys_snoc, List.all_append, HALL.out]
      simp [HXK.out, HKQ.out]
  case done =>
    rintro D M xs W hD hS ⟨⟨hq, hqM⟩, ⟨hr, hrM⟩, hbl, hall⟩ hK
    have cr : W.cell? ⟨w.heap.size + 1 + 1, 0, none⟩ = some (.bool false) := cell_box hr rfl rfl
    have fr : W.frozen? ⟨w.heap.size + 1 + 1, 0, none⟩ = false := Boxed.frozen hr
    have hne : w.heap.size + 1 + 1 ≠ D := by simp at hD; omega
    have hK' : (W.setCell ⟨w.heap.size + 1 + 1, 0, none⟩ (.bool false)).heap[D]? = some (.deferred (some [])) := (Below.heap_setCell _ _ _ D (fun e => hne e.symm)).trans hK
    have hr' : ((W.setCell ⟨w.heap.size + 1 + 1, 0, none⟩ (.bool false)).putObj D (.deferred none)).heap[w.heap.size + 1 + 1]? = some (.cells #[.bool false] 4) := (World.putObj_heap_other hne).trans (Boxed.set _ hr)
    have hwo : Tp.without q t = true := by
      rw [show xs.map Nd.key = Tp.pre t 1 from hS, Tp.pre_without] at hall; exact hall
    have HR' := Lib.hid hr'; have HBL := Lib.hid hbl; have HWO := Lib.hid hwo
    clear hq hr hbq hbr hall hr' hbl hwo
    gi_wp2
    refine ⟨by simp, .inl ⟨_, _, rfl, run_takeDeferred hK', ?_⟩⟩
    have hc5 := cell_box HR'.out rfl (i := 0) rfl
    refine ⟨.bool false, ?_, by rw [HWO.out]; rfl, ?_⟩
    · simp [results, Try.f132, go_sem, hc5]
    · exact ((Turns.setCell (M := fun k => w.heap.size ≤ k) W ⟨w.heap.size + 1 + 1, 0, none⟩ _ (by simp <;> omega)).trans (Turns.putObj _ D _ (by simp at hD; omega))).below HBL.out (fun _ h => h) HBL.out.size
  case stop =>
    rintro D M c pre W hD ⟨⟨hr, hrM⟩, hbl, rfl, hwo⟩ hK
    have hne : w.heap.size + 1 + 1 ≠ D := by simp at hD; omega
    have hr' : (W.putObj D (.deferred none)).heap[w.heap.size + 1 + 1]? = some (.cells #[.bool true] 4) := (World.putObj_heap_other hne).trans hr
    have HR' := Lib.hid hr'; have HBL := Lib.hid hbl; have HWO := Lib.hid hwo
    clear hr hbq hbr hr' hbl hwo
    gi_wp2
    refine ⟨by simp, .inl ⟨_, _, rfl, run_takeDeferred hK, ?_⟩⟩
    have hc5 := cell_box HR'.out rfl (i := 0) rfl
    refine ⟨.bool true, ?_, by rw [HWO.out]; rfl, ?_⟩
    · simp [results, Try.f132, go_sem, hc5]
    · exact (Turns.putObj (M := fun k => w.heap.size ≤ k) _ D _ (by simp at hD; omega)).below HBL.out (fun _ h => h) HBL.out.size

set_option maxHeartbeats 1000000 in
theorem static_any (t : T) (a : Option Addr) (cap : Nat) (w : World) (hsz : Tp.size t ≤ 10000) (hty : TyAt (LT w.heap.size) w t a cap) :
    Calls Try.prog 131 #[tv t a cap] w fun e w' => e = .returned (.bool (Tp.without 5 t)) ∧ Below w.heap.size w w' := by
  have HTY := Lib.hid hty; clear hty
  obtain ⟨k0, hk0⟩ : ∃ k0, t.kind = k0 := ⟨_, rfl⟩
  obtain ⟨n0, hn0⟩ : ∃ n0, t.num = n0 := ⟨_, rfl⟩
  obtain ⟨m0, hm0⟩ : ∃ m0, t.kids.length = m0 := ⟨_, rfl⟩
  have h30 := fun w1 h => has_any t a cap 5 w1 hsz h
  unfold tv at h30 ⊢
  rw [hk0, hn0, hm0] at h30 ⊢
  have H30 := Lib.hid h30
  clear hk0 hn0 hm0 h30
  go_enter Try.func131, Try.ntmps131
  go_wp2_with (go_at_call 132; refine (H30.out _ ?_).mono ?_; (· exact HTY.out.below ((Below.refl _ _).alloc (Nat.le_refl _) _) (fun _ h => h) (fun b h => Nat.lt_of_lt_of_le h (by simp))); rintro e w1 ⟨rfl, hb⟩)
  go_ret
  exact ⟨ret_boolT (by simp), ((Below.refl _ _).alloc (Nat.le_refl _) _).trans (hb.mono (by simp))⟩

set_option maxHeartbeats 1000000 in
theorem closed_any (t : T) (a : Option Addr) (cap : Nat) (w : World) (hsz : Tp.size t ≤ 10000) (hty : TyAt (LT w.heap.size) w t a cap) :
    Calls Try.prog 103 #[tv t a cap] w fun e w' => e = .returned (.bool (Tp.without 6 t)) ∧ Below w.heap.size w w' := by
  have HTY := Lib.hid hty; clear hty
  obtain ⟨k0, hk0⟩ : ∃ k0, t.kind = k0 := ⟨_, rfl⟩
  obtain ⟨n0, hn0⟩ : ∃ n0, t.num = n0 := ⟨_, rfl⟩
  obtain ⟨m0, hm0⟩ : ∃ m0, t.kids.length = m0 := ⟨_, rfl⟩
  have h30 := fun w1 h => has_any t a cap 6 w1 hsz h
  unfold tv at h30 ⊢
  rw [hk0, hn0, hm0] at h30 ⊢
  have H30 := Lib.hid h30
  clear hk0 hn0 hm0 h30
  go_enter Try.func103, Try.ntmps103
  go_wp2_with (go_at_call 132; refine (H30.out _ ?_).mono ?_; (· exact HTY.out.below ((Below.refl _ _).alloc (Nat.le_refl _) _) (fun _ h => h) (fun b h => Nat.lt_of_lt_of_le h (by simp))); rintro e w1 ⟨rfl, hb⟩)
  go_ret
  exact ⟨ret_boolT (by simp), ((Below.refl _ _).alloc (Nat.le_refl _) _).trans (hb.mono (by simp))⟩

set_option maxRecDepth 100000 in
set_option maxHeartbeats 2000000 in
theorem check_any (t : T) (a : Option Addr) (cap : Nat) (w : World) (hsz : Tp.size t ≤ 10000) (hty : TyAt (LT w.heap.size) w t a cap) :
    Calls Try.prog 97 #[tv t a cap] w fun e w' => e = .returned (.int .i64 (errOf (Tp.right t))) ∧ Below w.heap.size w w' := by
  refine callsIn_wide (n := 9) |>.1 ?_
  have HTY := Lib.hid hty; clear hty
  obtain ⟨k0, hk0⟩ : ∃ k0, t.kind = k0 := ⟨_, rfl⟩
  obtain ⟨n0, hn0⟩ : ∃ n0, t.num = n0 := ⟨_, rfl⟩
  obtain ⟨m0, hm0⟩ : ∃ m0, t.kids.length = m0 := ⟨_, rfl⟩
  unfold tv
  have h30 := fun w => nodes_any t a cap w
  unfold tv at h30
  rw [hk0, hn0, hm0] at h30 ⊢
  have HK := Lib.hid hk0; have HN := Lib.hid hn0; have HM := Lib.hid hm0; have H30 := Lib.hid h30
  clear hk0 hn0 hm0 h30
  refine callsIn_of_wp_marks Try.func97 rfl trivial ?_ rfl
  simp only [Try.ntmps97, List.size_toArray, List.length_cons, List.length_nil, Nat.reduceAdd, Nat.reduceSub, Array.replicate_succ, Array.replicate_zero, List.push_toArray, List.append_toArray, List.nil_append, List.cons_append]
  gi_wp2_with (refine ⟨trivial, ?_⟩; gi_at_call 126; refine (callsIn_wide.2 (H30.out _)).mono ?_; rintro e w' ⟨rfl, rfl⟩)
  have hb0 : Below w.heap.size w (((w.alloc (.cells #[.int .i64 k0, .int .i64 n0, .slice a m0 cap] 26)).alloc (.cells #[.int .i64 0] 45)).alloc (.cells #[.int .i64 k0, .int .i64 n0, .slice a m0 cap] 26)) := (((Below.refl _ _).alloc (Nat.le_refl _) _).alloc (by simp) _).alloc (by simp <;> omega) _
  have hbr : (((w.alloc (.cells #[.int .i64 k0, .int .i64 n0, .slice a m0 cap] 26)).alloc (.cells #[.int .i64 0] 45)).alloc (.cells #[.int .i64 k0, .int .i64 n0, .slice a m0 cap] 26)).heap[w.heap.size + 1]? = some (.cells #[.int .i64 0] 45) := (Below.heap_alloc _ _ _ (by simp)).trans (box2 _ _ _ _ _)
  refine wpIn_range_mine (gf := 136) (lb := #[.pointer (some ⟨w.heap.size + 1 + 1, 0, none⟩)]) rfl (enters_of Try.func136 (by kernel_rfl) rfl)
    (nodes_seq t hsz w.heap.size (w.heap.size + 1 + 1) a cap _ hb0.size (HTY.out.below hb0 (fun _ h => h) (fun _ h => h)) (by rw [HK.out, HN.out, HM.out]; have := World.alloc_heap_new ((w.alloc (.cells #[.int .i64 k0, .int .i64 n0, .slice a m0 cap] 26)).alloc (.cells #[.int .i64 0] 45)) (.cells #[.int .i64 k0, .int .i64 n0, .slice a m0 cap] 26); simpa using this))
    (Below.refl _ _) hb0.size (fun _ => rfl)
    (fun M pre W => (W.heap[w.heap.size + 1]? = some (.cells #[.int .i64 0] 45) ∧ ¬ M (w.heap.size + 1)) ∧ (Below w.heap.size w W ∧ (pre.map Nd.key).all (fun x => Tp.nodeRight x.1.kind x.1.num x.1.kids.length) = true))
    (fun c M _ W => (W.heap[w.heap.size + 1]? = some (.cells #[.int .i64 1] 45) ∧ ¬ M (w.heap.size + 1)) ∧ (Below w.heap.size w W ∧ (c = .ret ∧ Tp.right t = false)))
    (fun x a' M W => ∃ B, (W.heap[B]? = some (.cells #[.int .i64 x.t.kind, .int .i64 x.t.num, .slice x.a x.t.kids.length x.cap] 26) ∧ ¬ M B) ∧ a' = { tmps := #[.agg #[.int .i64 k0, .int .i64 n0, .slice a m0 cap], .pointer (some ⟨w.heap.size, 0, none⟩), .pointer (some ⟨w.heap.size + 1, 0, none⟩), .pointer (some ⟨B, 0, none⟩), .agg #[.int .i64 k0, .int .i64 n0, .slice a m0 cap], .func (.func 136) #[] #[.pointer (some ⟨w.heap.size + 1 + 1, 0, none⟩)], tv x.t x.a x.cap, .int .i64 (x.d : Int), undef, undef, undef], defers := [] })
    (fun s => Ab.and (Ab.block _ _ _) (Ab.and (Ab.below hb0.size w (Nat.le_refl _)) (Ab.pure _ _))) (fun _ _ => Ab.and (Ab.block _ _ _) (Ab.and (Ab.below hb0.size w (Nat.le_refl _)) (Ab.pure _ _))) (fun _ _ => Ab.ex fun B => Ab.and (Ab.block _ _ _) (Ab.pure _ _)) ⟨⟨hbr, fun h => h⟩, hb0, rfl⟩ ?assign ?body ?done ?stop
  case assign =>
    intro l M pre x W K hi hM hok hK
    simp only [ndEnc, tv]
    clear hb0 hbr hi
    gi_wp2
    refine hK _ _ (Turns.alloc _ _ _) ⟨W.heap.size, ⟨World.alloc_heap_new _ _, fun h => by have := (hM _ h).2; omega⟩, ?_⟩
    simp [tv]
  case body =>
    rintro l M pre x a' W ⟨⟨hr, hrM⟩, hbl, hall⟩ hM hle hok ⟨B, ⟨hB, hBM⟩, rfl⟩
    have HOK := Lib.hid hok; have HALL := Lib.hid hall; have HBL := Lib.hid hbl; have HRM := Lib.hid hrM; have HM' := Lib.hid hM
    have hlt := (Array.getElem?_eq_some_iff.1 hr).1
    have HLT := Lib.hid hlt
    have h31 := right_any x.t x.a x.cap W hok.2.2.2.1
    unfold tv at h31 ⊢
    obtain ⟨xk, hxk⟩ : ∃ xk, x.t.kind = xk := ⟨_, rfl⟩
    obtain ⟨xn, hxn⟩ : ∃ xk, x.t.num = xk := ⟨_, rfl⟩
    obtain ⟨xm, hxm⟩ : ∃ xk, x.t.kids.length = xk := ⟨_, rfl⟩
    rw [hxk, hxn, hxm] at h31 hB ⊢
    have cB : W.cell? ⟨B, 0, none⟩ = some (.int .i64 xk) := cell_box hB rfl rfl
    have cB1 : W.cell? ⟨B, 1, none⟩ = some (.int .i64 xn) := cell_box hB rfl rfl
    have cB2 : W.cell? ⟨B, 2, none⟩ = some (.slice x.a xm x.cap) := cell_box hB rfl rfl
    have HR := Lib.hid hr; have H31 := Lib.hid h31
    have HXK := Lib.hid hxk; have HXN := Lib.hid hxn; have HXM := Lib.hid hxm
    clear hr hB hrM hBM hM hle hok hall hbl hb0 hbr hlt h31 hxk hxn hxm
    cases hn : Tp.nodeRight xk xn xm with
    | false =>
      have hw : Tp.right t = false := by
        obtain ⟨⟨rest, hrest⟩, _⟩ := HOK.out
        have := Tp.pre_right t 1
        rw [← this, ← hrest, List.all_append, List.all_cons]
        simp [Nd.key, HXK.out, HXN.out, HXM.out, hn]
      have HW := Lib.hid hw; clear hw
      rw [hn] at H31
      have HN' := Lib.hid hn; clear hn
      gi_wp2_with (refine ⟨trivial, ?_⟩; gi_at_call 127; refine (CallsIn.inRound l (callsIn_wide.2 H31.out)).mono ?_; rintro e w1 ⟨rfl, hb1⟩; have hr1 := (hb1.block _ HLT.out).trans HR.out; have f1 : w1.frozen? ⟨w.heap.size + 1, 0, none⟩ = false := Boxed.frozen hr1; have c1 : w1.cell? ⟨w.heap.size + 1, 0, none⟩ = some (.int .i64 0) := cell_box hr1 rfl rfl)
      have hT : Turns (fun k => w.heap.size ≤ k ∧ ¬ M k) W w1 := ⟨hb1.os, hb1.tape, hb1.output, hb1.size, fun k hk _ => hb1.block k hk⟩
      exact ⟨hT.trans (Turns.setCell _ _ _ ⟨by simp, HRM.out⟩), ⟨Boxed.set _ hr1, HRM.out⟩, (HBL.out.trans (hb1.mono HBL.out.size)).setCell (by simp <;> omega) _, rfl, HW.out⟩
    | true =>
      rw [hn] at H31
      have HN' := Lib.hid hn; clear hn
      gi_wp2_with (refine ⟨trivial, ?_⟩; gi_at_call 127; refine (CallsIn.inRound l (callsIn_wide.2 H31.out)).mono ?_; rintro e w1 ⟨rfl, hb1⟩)
      refine ⟨⟨hb1.os, hb1.tape, hb1.output, hb1.size, fun k hk _ => hb1.block k hk⟩, ⟨(hb1.block _ HLT.out).trans HR.out, HRM.out⟩, HBL.out.trans (hb1.mono HBL.out.size), ?_⟩
      rw [keys_snoc, List.all_append, HALL.out]
      simp [HXK.out, HXN.out, HXM.out, HN'.out]
  case done =>
    rintro D M xs W hD hS ⟨⟨hr, hrM⟩, hbl, hall⟩ hK
    have cr : W.cell? ⟨w.heap.size + 1, 0, none⟩ = some (.int .i64 0) := cell_box hr rfl rfl
    have fr : W.frozen? ⟨w.heap.size + 1, 0, none⟩ = false := Boxed.frozen hr
    have hne : w.heap.size + 1 ≠ D := by simp at hD; omega
    have hK' : (W.setCell ⟨w.heap.size + 1, 0, none⟩ (.int .i64 0)).heap[D]? = some (.deferred (some [])) := (Below.heap_setCell _ _ _ D (fun e => hne e.symm)).trans hK
    have hr' : ((W.setCell ⟨w.heap.size + 1, 0, none⟩ (.int .i64 0)).putObj D (.deferred none)).heap[w.heap.size + 1]? = some (.cells #[.int .i64 0] 45) := (World.putObj_heap_other hne).trans (Boxed.set _ hr)
    have hwo : Tp.right t = true := by
      rw [show xs.map Nd.key = Tp.pre t 1 from hS, Tp.pre_right] at hall; exact hall
    have HR' := Lib.hid hr'; have HBL := Lib.hid hbl; have HWO := Lib.hid hwo
    clear hr hbr hall hr' hbl hwo
    gi_wp2
    refine ⟨by simp, .inl ⟨_, _, rfl, run_takeDeferred hK', ?_⟩⟩
    have hc5 := cell_box HR'.out rfl (i := 0) rfl
    refine ⟨.int .i64 0, ?_, by rw [HWO.out]; rfl, ?_⟩
    · simp [results, Try.f97, go_sem, hc5]
    · exact ((Turns.setCell (M := fun k => w.heap.size ≤ k) W ⟨w.heap.size + 1, 0, none⟩ _ (by simp <;> omega)).trans (Turns.putObj _ D _ (by simp at hD; omega))).below HBL.out (fun _ h => h) HBL.out.size
  case stop =>
    rintro D M c pre W hD ⟨⟨hr, hrM⟩, hbl, rfl, hwo⟩ hK
    have hne : w.heap.size + 1 ≠ D := by simp at hD; omega
    have hr' : (W.putObj D (.deferred none)).heap[w.heap.size + 1]? = some (.cells #[.int .i64 1] 45) := (World.putObj_heap_other hne).trans hr
    have HR' := Lib.hid hr'; have HBL := Lib.hid hbl; have HWO := Lib.hid hwo
    clear hr hbr hr' hbl hwo
    gi_wp2
    refine ⟨by simp, .inl ⟨_, _, rfl, run_takeDeferred hK, ?_⟩⟩
    have hc5 := cell_box HR'.out rfl (i := 0) rfl
    refine ⟨.int .i64 1, ?_, by rw [HWO.out]; rfl, ?_⟩
    · simp [results, Try.f97, go_sem, hc5]
    · exact (Turns.putObj (M := fun k => w.heap.size ≤ k) _ D _ (by simp at hD; omega)).below HBL.out (fun _ h => h) HBL.out.size
end Go.Proofs.Yteolbbgnkbcfmaa
