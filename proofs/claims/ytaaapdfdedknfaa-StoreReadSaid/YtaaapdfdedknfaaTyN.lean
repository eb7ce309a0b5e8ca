/- typ.nodes: the nodes of a type in the order of the tree, by a stack of the iterator's own. -/
import Derived.Test.YtaaapdfdedknfaaTyR
import Derived.Sort.LoopGhostIn
import Derived.Sort.CutIn
import Derived.Deep.LoopGhost
import Derived.Deep.AppendLies
import Derived.Deep.RegionLaw
import Derived.Outline
namespace Go.Proofs.Ytaaapdfdedknfaa
open Go Go.RowKit Go.Shelf
open Tp (T)

attribute [local go_sem] Oper.semAt_some

/-- What lies on the stack: types of one depth, one at least. -/
structure Ent where
  ts : List T
  a : Option Addr
  cap : Nat
  d : Nat
def entCells (e : Ent) : List Value := [.slice e.a e.ts.length e.cap, .int .i64 (e.d : Int)]
def stCells (S : List Ent) : List Value := S.flatMap entCells
/-- What is still to come, of a stack whose top is the first. -/
def todo (R : List Ent) : List (T × Nat) := R.flatMap fun e => Tp.pres e.ts e.d
theorem stCells_length : ∀ S : List Ent, (stCells S).length = S.length * 2
  | [] => rfl
  | e :: r => by
    have := stCells_length r
    simp only [stCells, List.flatMap_cons, List.length_append, List.length_cons, entCells, List.length_nil] at this ⊢
    omega
theorem stCells_snoc (S : List Ent) (e : Ent) : stCells (S ++ [e]) = stCells S ++ entCells e := by simp [stCells]

theorem elem_st : Try.prog.underlying 186 = some (.slice (Try.prog.elem 186)) := by kernel_rfl
theorem size_st (w : World) : (sizeOf (Try.prog.elem 186)).run Try.prog w = .ok 2 w := by kernel_rfl
theorem info_st : (Try.prog.info? 185).map (fun i => (i.zero, i.size, i.bytes)) = some (some (.agg #[.slice none 0 0, .int .i64 0]), 2, 32) := by kernel_rfl
theorem info_ty : (Try.prog.info? 26).map (fun i => (i.zero, i.size, i.bytes)) = some (some (.agg #[.int .i64 0, .int .i64 0, .slice none 0 0]), 3, 40) := by kernel_rfl
theorem elem_ty : Try.prog.underlying 24 = some (.slice (Try.prog.elem 24)) := by kernel_rfl
theorem size_ty (w : World) : (sizeOf (Try.prog.elem 24)).run Try.prog w = .ok 3 w := by kernel_rfl

theorem add_flat (g o j : Nat) : ((⟨g, o, none⟩ : Addr).add j) = ⟨g, o + j, none⟩ := by unfold Addr.add; split <;> simp_all
/-- 'open[:top]': the stack without its top. -/
theorem st_pop (g n cap k : Nat) (hk : k ≤ n) (hn : n ≤ cap) (w' : World) :
    (Instr.slice 186 (.slice (some ⟨g, 0, none⟩) n cap) none (some (.int .i64 (k : Int))) none).run Try.prog w' = .ok (.slice (some ⟨g, 0, none⟩) k cap) w' := by
  rw [run_slice_h w' _ _ n cap elem_st .i64 (k : Int) (by omega) (by omega), size_st]
  simp [Result.andThen, sliced, add_flat]
/-- 'list[1:]', where two are left at least. -/
theorem list_tail (b o n cap : Nat) (hn : 1 < n) (hc : n ≤ cap) (w' : World) :
    (Instr.slice 24 (.slice (some ⟨b, o, none⟩) n cap) (some (.int .i64 1)) none none).run Try.prog w' = .ok (.slice (some ⟨b, o + 3, none⟩) (n - 1) (cap - 1)) w' := by
  have h := run_slice_l w' 24 (some ⟨b, o, none⟩) n cap elem_ty .i64 1 (by omega) (by omega)
  rw [h, size_ty]
  simp [Result.andThen, sliced, add_flat]
  omega
theorem own_take {w : World} {base : Nat} {e : TypeId} {size n k g cap : Nat} {xs ys : List Value} (h : w.ownsRow base e size (.slice (some ⟨g, 0, none⟩) n cap) n (xs ++ ys)) (hk : k ≤ n) (hx : xs.length = k * size) :
    w.ownsRow base e size (.slice (some ⟨g, 0, none⟩) k cap) k xs := by
  obtain ⟨h1, h2 | ⟨g', cap', cur, h3, h4, h5, h6, h7, h8, h9⟩⟩ := h
  · cases h2.1
  · injection h3 with e1 e2 e3
    injection e1 with e1
    injection e1 with e1 e4 e5
    subst e1 e3
    refine ⟨hx, .inr ⟨g, cap, cur, rfl, h4, h5, by omega, h7, h8, ?_⟩⟩
    have := congrArg (List.take (k * size)) h9
    rw [List.take_take, Nat.min_eq_left (Nat.mul_le_mul_right _ hk), List.take_append_of_le_length (by omega), ← hx, List.take_length] at this
    rw [← hx]; exact this
theorem own_shapeT {w : World} {B sz : Nat} {e : TypeId} {v : Value} {n : Nat} {xs : List Value} (h : w.ownsRow B e sz v n xs) : ∃ a cap, v = .slice a n cap := by
  rcases h.2 with ⟨h1, h2⟩ | ⟨g, cap, cur, h1, _⟩
  · exact ⟨none, 0, by rw [h1, h2]⟩
  · exact ⟨some ⟨g, 0, none⟩, cap, h1⟩
theorem own_same {w w' : World} {B sz : Nat} {e : TypeId} {v : Value} {n : Nat} {xs : List Value} (h : w.ownsRow B e sz v n xs) (hs : ∀ g, v.ownBlock = some g → w'.heap[g]? = w.heap[g]?) : w'.ownsRow B e sz v n xs := by
  obtain ⟨h1, h2 | ⟨g, cap, cur, h3, h4, h5, h6⟩⟩ := h
  · exact ⟨h1, .inl h2⟩
  · exact ⟨h1, .inr ⟨g, cap, cur, h3, h4, (hs g (by rw [h3]; rfl)).trans h5, h6⟩⟩
/-- The top of the stack, and the stack without it. -/
theorem own_top {w : World} {base : Nat} {v : Value} {R : List Ent} {e : Ent} (h : w.ownsRow base 185 2 v (R.length + 1) (stCells (e :: R).reverse)) :
    ∃ g cap, v = .slice (some ⟨g, 0, none⟩) (R.length + 1) cap ∧ base ≤ g ∧ g < w.heap.size ∧ R.length + 1 ≤ cap ∧ cap ≤ maxLen ∧ w.cell? ⟨g, R.length * 2, none⟩ = some (.slice e.a e.ts.length e.cap) ∧
      w.cell? ⟨g, R.length * 2 + 1, none⟩ = some (.int .i64 (e.d : Int)) ∧ w.ownsRow base 185 2 (.slice (some ⟨g, 0, none⟩) R.length cap) R.length (stCells R.reverse) := by
  rw [List.reverse_cons, stCells_snoc] at h
  obtain ⟨h1, h2 | ⟨g, cap, cur, h3, h4, h5, h6, h7, h8, h9⟩⟩ := id h
  · omega
  · subst h3
    have hlen := stCells_length R.reverse
    rw [List.length_reverse] at hlen
    have hc := h.cells (g := g) rfl
    refine ⟨g, cap, rfl, h4, (Array.getElem?_eq_some_iff.1 h5).1, h6, h7, ?_, ?_, own_take h (Nat.le_succ _) hlen⟩
    · have := hc (R.length * 2) (.slice e.a e.ts.length e.cap) (by rw [← hlen, List.getElem?_append_right (Nat.le_refl _), Nat.sub_self]; rfl)
      rwa [add_flat, Nat.zero_add] at this
    · have := hc (R.length * 2 + 1) (.int .i64 (e.d : Int)) (by rw [← hlen, List.getElem?_append_right (by omega), Nat.add_sub_cancel_left]; rfl)
      rwa [add_flat, Nat.zero_add] at this

/-- A node as it is handed to a round. -/
structure Nd where
  t : T
  d : Nat
  a : Option Addr
  cap : Nat
def Nd.key (x : Nd) : T × Nat := (x.t, x.d)
def ndEnc (x : Nd) : Array Value := #[tv x.t x.a x.cap, .int .i64 (x.d : Int)]
def ndAll (t : T) (xs : List Nd) : Prop := xs.map Nd.key = Tp.pre t 1
def ndOk (t : T) (pre : List Nd) (x : Nd) : Prop := (∃ rest, pre.map Nd.key ++ x.key :: rest = Tp.pre t 1) ∧ I64 x.t.kind ∧ I64 x.t.num ∧ x.t.kids.length ≤ maxLen ∧ x.d ≤ 20000

/-- An entry as it lies in memory. -/
def Ent.good (G : Nat → Prop) (w : World) (t : T) (e : Ent) : Prop := e.ts ≠ [] ∧ SlAt G w e.ts e.a e.cap ∧ e.d + Tp.sizes e.ts ≤ Tp.size t + 1
/-- What the stack is between two rounds: 'G' the blocks whose cells nobody turns. -/
structure Stk (G : Nat → Prop) (t : T) (base : Nat) (M : Nat → Prop) (R : List Ent) (pre : List Nd) (v : Value) (w : World) : Prop where
  own : w.ownsRow base 185 2 v R.length (stCells R.reverse)
  mine : ∀ g, v.ownBlock = some g → M g
  each : ∀ e ∈ R, e.good G w t
  todo : pre.map Nd.key ++ todo R = Tp.pre t 1
theorem slat_same {G : Nat → Prop} {w w' : World} (hG : ∀ k, G k → w'.heap[k]? = w.heap[k]?) {l : List T} {a : Option Addr} {cap : Nat} (h : SlAt G w l a cap) : SlAt G w' l a cap :=
  ⟨h.1, h.2.1, KidsAt.mono (fun b o hb => World.cell?_of_block (a := ⟨b, o, none⟩) (hG b hb)) (fun _ h => h) l a h.2.2⟩
theorem good_tail {G : Nat → Prop} {w w' : World} (hG : ∀ k, G k → w'.heap[k]? = w.heap[k]?) {t x : T} {rs : List T} {b o cap d : Nat} (h : Ent.good G w t ⟨x :: rs, some ⟨b, o, none⟩, cap, d⟩) (hr : rs ≠ []) : Ent.good G w' t ⟨rs, some ⟨b, o + 3, none⟩, cap - 1, d⟩ := by
  obtain ⟨_, ⟨h1, h2, h3⟩, h4⟩ := h
  refine ⟨hr, slat_same hG ⟨?_, ?_, h3.tail⟩, ?_⟩
  · simp only [List.length_cons] at h1 ⊢; omega
  · dsimp only at h2 ⊢; omega
  · have := Tp.size_pos x; simp only [Tp.sizes] at h4 ⊢; omega
theorem good_kids {G : Nat → Prop} {w w' : World} (hG : ∀ k, G k → w'.heap[k]? = w.heap[k]?) {t x : T} {rs : List T} {ea xa : Option Addr} {cap xcap d : Nat} (h : Ent.good G w t ⟨x :: rs, ea, cap, d⟩) (hx : TyAt G w x xa xcap) (hr : x.kids ≠ []) : Ent.good G w' t ⟨x.kids, xa, xcap, d + 1⟩ := by
  obtain ⟨_, _, h4⟩ := h
  refine ⟨hr, slat_same hG hx.2.2, ?_⟩
  cases x with
  | mk k n l => simp only [Tp.sizes, Tp.size] at h4; simp only [T.kids, Tp.T.kids]; omega
theorem b32 {r : Nat} (h : r ≤ 10000) : (r + 1) * 32 ≤ 140737488355328 ∧ (r + 1 + 1) * 32 ≤ 140737488355328 ∧ r + 1 ≤ maxLen ∧ r + 1 + 1 ≤ maxLen := by unfold maxLen; omega
theorem push_turns {M : Nat → Prop} {A B C : World} {o : Obj} {row : Option Nat} (h : Turns M A B) (hg : (B.alloc o).grownBy C row) (hrow : ∀ k, row = some k → k < A.heap.size → M k) : Turns M A C := by
  have hs := h.size
  have hg' := hg.size
  rw [World.size_alloc] at hg'
  refine ⟨hg.os.trans h.os, hg.tape.trans h.tape, hg.output.trans h.output, by omega, fun k hk hM => ?_⟩
  rw [hg.block k (by rw [World.size_alloc]; omega) (fun e => hM (hrow k e.symm hk)), Below.heap_alloc _ _ _ (by omega)]
  exact h.block k hk hM
theorem push_same {G : Nat → Prop} {V B C : World} {o : Obj} {row : Option Nat} (h : ∀ k, G k → B.heap[k]? = V.heap[k]?) (hlt : ∀ k, G k → k < B.heap.size) (hg : (B.alloc o).grownBy C row) (hrow : ∀ k, row = some k → ¬ G k) : ∀ k, G k → C.heap[k]? = V.heap[k]? := fun k hk => by
  have := hlt k hk
  rw [hg.block k (by rw [World.size_alloc]; omega) (fun e => hrow k e.symm hk), Below.heap_alloc _ _ _ this]
  exact h k hk
theorem two_cells (a : Option Addr) (n c : Nat) (d : Int) : ∀ u ∈ [Value.slice a n c, .int .i64 d], u.oneCell' = true := by
  intro u hu
  simp only [List.mem_cons, List.not_mem_nil, or_false] at hu
  rcases hu with rfl | rfl <;> rfl
theorem good_same {G : Nat → Prop} {w w' : World} (hG : ∀ k, G k → w'.heap[k]? = w.heap[k]?) {t : T} {e : Ent} (h : e.good G w t) : e.good G w' t := ⟨h.1, slat_same hG h.2.1, h.2.2⟩
/-- append at an operation inside a fence; it tells where the row then lies. -/
theorem wpListIn_append_lies {F : Fence} {n' : Nat} {P : Program} (w : World) {ops : Array Oper} {rest : List Oper} {o : Oper} {a : Act} {Q : Exit → Act → World → Prop}
    (hgd : o.guard = none) (s x : Operand) (t : TypeId) (hop : o.op = Op.call { callee := Callee.builtin Builtin.append, args := #[s, x], argTypes := #[t, t] })
    (base : Nat) (e : TypeId) (i : TypeInfo) (z : Value) (size bytes : Nat) (ht : P.underlying t = some (.slice e)) (hi : P.info? e = some i) (hz : i.zero = some z)
    (hsize : i.size = size) (hby : i.bytes = bytes) (hzs : z.cells.size = size) (hsz : 0 < size)
    (v : Value) (n : Nat) (xs : List Value) (hs : a.eval s = v) (hown : w.ownsRow base e size v n xs)
    (ad : Addr) (m c : Nat) (news : List Value) (hx : a.eval x = .slice (some ad) m c) (hl : news.length = m * size) (hnews : ∀ j u, news[j]? = some u → w.cell? (ad.add j) = some u) (h1 : ∀ u ∈ news, u.oneCell' = true)
    (hm : 0 < m) (h63 : n + m ≤ maxLen) (hbytes : (n + m) * bytes ≤ 140737488355328) (hbase : base ≤ w.heap.size)
    (hK : ∀ g cap w', w'.ownsRow base e size (.slice (some ⟨g, 0, none⟩) (n + m) cap) (n + m) (xs ++ news) → w.grownBy w' v.ownBlock → (v.ownBlock = some g ∨ g = w.heap.size) → wpListIn F n' P ops Q rest (a.put o.dst (.slice (some ⟨g, 0, none⟩) (n + m) cap)) w') :
    wpListIn F n' P ops Q (o :: rest) a w := by
  refine wpListIn_plain hgd fun K hK' => ?_
  obtain ⟨g, cap, w', hrun, r1, r2, r3, _⟩ := run_append_lies (P := P) (w := w) t o.type base e i z size bytes ht hi hz hsize hby hzs hsz v n xs hown ad m c news hl hnews h1 hm h63 hbytes hbase w.heap.size rfl
  unfold Oper.wpIn
  refine ⟨?_, ?_⟩
  · simp [Oper.about, hop, resolve, Target.leads, Sem.run_pure]
  · rw [Oper.semAt_plain F _ _ (by rw [hop]; intro c hc'; cases hc')]
    simp [execOp, hop, resolve, invoke, builtin, hs, hx, hrun, Result.andThen]
    exact hK' _ _ (hK g cap w' r1 r2 r3)
theorem d_bound {d s n : Nat} (h : d + s ≤ n + 1) (hn : n ≤ 10000) : (d : Int) ≤ 10001 := by omega
theorem not_G {g n₀ B : Nat} (h : B + 1 ≤ g) (hn : n₀ ≤ B) : ¬ (g < n₀ ∨ g = B) := by omega
theorem lt_G {k n₀ B S : Nat} (hn : n₀ ≤ B) (hb : B + 1 ≤ S) (h : k < n₀ ∨ k = B) : k < S := by omega
theorem lies_at {g g1 n cap : Nat} {w : World} {o : Obj} (h : (Value.slice (some ⟨g, 0, none⟩) n cap).ownBlock = some g1 ∨ g1 = (w.alloc o).heap.size) : g1 = g ∨ w.heap.size ≤ g1 := by
  rcases h with h | h
  · injection h with h; exact .inl h.symm
  · rw [World.size_alloc] at h; omega
theorem undrew {A B : World} {row : Option Nat} (h : A.drew.grownBy B row) : A.grownBy B row := ⟨h.os, h.tape, h.output, h.size, h.block⟩
theorem lies_at' {g g1 n cap S : Nat} (h : (Value.slice (some ⟨g, 0, none⟩) n cap).ownBlock = some g1 ∨ g1 = S + 1) : g1 = g ∨ S ≤ g1 := by
  rcases h with h | h
  · injection h with h; exact .inl h.symm
  · omega
theorem far_block {A B : World} {o : Obj} {g k : Nat} (h : (A.alloc o).grownBy B (some g)) (hk : k < A.heap.size) (hne : k ≠ g) : B.heap[k]? = A.heap[k]? := by
  rw [h.block k (by rw [World.size_alloc]; omega) (fun e => hne (by injection e)), Below.heap_alloc _ _ _ hk]
theorem lies2 {g g1 g2 S S1 : Nat} (h : g2 = g1 ∨ S1 ≤ g2) (h1 : g1 = g ∨ S ≤ g1) (hS : S ≤ S1) : g2 = g ∨ S ≤ g2 := by omega
/-- BEHIND A ROUND. -/
theorem stk_next {G : Nat → Prop} {t x : T} {base ecap d xcap : Nat} {M M5 : Nat → Prop} {R E : List Ent} {pre : List Nd} {v v5 : Value} {wr W5 : World} {rs : List T} {ea xa : Option Addr}
    (h : Stk G t base M (⟨x :: rs, ea, ecap, d⟩ :: R) pre v wr) (hG : ∀ k, G k → W5.heap[k]? = wr.heap[k]?) (hE : ∀ e ∈ E, e.good G W5 t) (hT : todo E = Tp.pres x.kids (d + 1) ++ Tp.pres rs d)
    (hown : W5.ownsRow base 185 2 v5 (E ++ R).length (stCells (E ++ R).reverse)) (hm : ∀ g, v5.ownBlock = some g → M5 g) :
    Stk G t base M5 (E ++ R) (pre ++ [⟨x, d, xa, xcap⟩]) v5 W5 ∧ (todo (E ++ R)).length < (todo (⟨x :: rs, ea, ecap, d⟩ :: R)).length := by
  have e1 : todo (⟨x :: rs, ea, ecap, d⟩ :: R) = (x, d) :: todo (E ++ R) := by
    have : todo (E ++ R) = todo E ++ todo R := by simp [todo]
    rw [this, hT]
    cases x with
    | mk k n l => simp [todo, Tp.pres, Tp.pre, Tp.T.kids]
  refine ⟨⟨hown, hm, fun e he => ?_, ?_⟩, by rw [e1]; simp⟩
  · rcases List.mem_append.1 he with he | he
    · exact hE e he
    · have := h.each e (List.mem_cons_of_mem _ he)
      exact ⟨this.1, slat_same hG this.2.1, this.2.2⟩
  · have := h.todo
    rw [e1] at this
    rw [← this]; simp [Nd.key]
theorem todo_pos {R : List Ent} {G : Nat → Prop} {w : World} {t : T} (h : ∀ e ∈ R, e.good G w t) : R.length ≤ (todo R).length := by
  induction R with
  | nil => simp
  | cons e r ih =>
    have h1 := ih fun e he => h e (List.mem_cons_of_mem _ he)
    have h2 := (h e (by simp)).1
    have h3 : 0 < (Tp.pres e.ts e.d).length := by
      rw [Tp.pres_length]
      have := Tp.length_le_sizes e.ts
      have := List.length_pos_iff.2 h2
      omega
    simp only [todo, List.flatMap_cons, List.length_append, List.length_cons] at h1 ⊢
    omega
theorem Stk.len {G : Nat → Prop} {t : T} {base : Nat} {M : Nat → Prop} {R : List Ent} {pre : List Nd} {v : Value} {w : World} (h : Stk G t base M R pre v w) : R.length ≤ Tp.size t := by
  have h1 := todo_pos h.each
  have h2 := congrArg List.length h.todo
  rw [List.length_append, Tp.pre_length] at h2
  omega
theorem cell_lt {w : World} {a : Addr} {v : Value} (h : w.cell? a = some v) : a.block < w.heap.size := by
  unfold World.cell? at h
  cases hb : w.heap[a.block]? with
  | none => rw [hb] at h; cases h
  | some o => exact (Array.getElem?_eq_some_iff.1 hb).1
theorem box1 (w : World) (A B : Array Value) (s u : TypeId) : ((w.alloc (.cells A s)).alloc (.cells B u)).heap[w.heap.size]? = some (.cells A s) := (Below.heap_alloc _ _ _ (by simp)).trans (World.alloc_heap_new w _)
theorem box2 (w : World) (A B : Array Value) (s u : TypeId) : ((w.alloc (.cells A s)).alloc (.cells B u)).heap[w.heap.size + 1]? = some (.cells B u) := by
  have := World.alloc_heap_new (w.alloc (.cells A s)) (.cells B u); rwa [World.size_alloc] at this
theorem cell_box {w w' : World} {b i : Nat} {A : Array Value} {s : TypeId} {v : Value} (h : w.heap[b]? = some (.cells A s)) (hs : w'.heap[b]? = w.heap[b]?) (hv : A[i]? = some v) : w'.cell? ⟨b, i, none⟩ = some v := by
  simp [World.cell?, hs, h, hv]
/-- At the start: the type alone. -/
theorem stk_start {W : World} {t : T} {n₀ : Nat} {a0 : Option Addr} {cap0 : Nat} (hty : TyAt (LT n₀) W t a0 cap0) (hn : n₀ ≤ W.heap.size) :
    Stk (fun b => b < n₀ ∨ b = W.heap.size) t (W.heap.size + 1) (fun k => k = W.heap.size ∨ k = W.heap.size + 1) [⟨[t], some ⟨W.heap.size, 0, none⟩, 1, 1⟩] [] (.slice (some ⟨W.heap.size + 1, 0, none⟩) 1 1)
      ((W.alloc (.cells #[.int .i64 t.kind, .int .i64 t.num, .slice a0 t.kids.length cap0] 26)).alloc (.cells #[.slice (some ⟨W.heap.size, 0, none⟩) 1 1, .int .i64 1] 185)) := by
  obtain ⟨W2, hW2⟩ : ∃ W2, (W.alloc (.cells #[.int .i64 t.kind, .int .i64 t.num, .slice a0 t.kids.length cap0] 26)).alloc (.cells #[.slice (some ⟨W.heap.size, 0, none⟩) 1 1, .int .i64 1] 185) = W2 := ⟨_, rfl⟩
  have hb : Below W.heap.size W W2 := by rw [← hW2]; exact ((Below.refl _ _).alloc (Nat.le_refl _) _).alloc (by simp) _
  have hbx : W2.heap[W.heap.size]? = some (.cells #[.int .i64 t.kind, .int .i64 t.num, .slice a0 t.kids.length cap0] 26) := by rw [← hW2]; exact box1 _ _ _ _ _
  have hown : W2.ownsRow (W.heap.size + 1) 185 2 (.slice (some ⟨W.heap.size + 1, 0, none⟩) 1 1) 1 [.slice (some ⟨W.heap.size, 0, none⟩) 1 1, .int .i64 1] := by
    refine ⟨rfl, .inr ⟨W.heap.size + 1, 1, #[.slice (some ⟨W.heap.size, 0, none⟩) 1 1, .int .i64 1], rfl, Nat.le_refl _, ?_, Nat.le_refl _, by unfold maxLen; omega, rfl, rfl⟩⟩
    rw [← hW2]; exact box2 _ _ _ _ _
  rw [hW2]
  refine ⟨hown, fun g hg => by injection hg with hg; exact .inr hg.symm, fun e he => ?_, by simp [todo, Tp.pres]⟩
  obtain rfl := List.mem_singleton.1 he
  refine ⟨by simp, ⟨by simp, by unfold maxLen; simp, ?_⟩, by simp [Tp.sizes]; omega⟩
  refine KidsAt.of_nodes (.inr rfl) [t] 0 (fun i hi => ?_)
  obtain rfl : i = 0 := by simpa using hi
  exact NodeAt.mk' (hty.below hb (fun b h => Nat.lt_of_lt_of_le h hn) (fun b h => .inl h)) (cell_box hbx rfl rfl) (cell_box hbx rfl rfl) (cell_box hbx rfl rfl)
theorem todo_cons {x : T} {rs : List T} {ea : Option Addr} {ecap d : Nat} {R : List Ent} : todo (⟨x :: rs, ea, ecap, d⟩ :: R) = (x, d) :: (Tp.pres x.kids (d + 1) ++ Tp.pres rs d ++ todo R) := by
  cases x with
  | mk k n l => simp [todo, Tp.pres, Tp.pre, Tp.T.kids]
theorem nd_ok {G : Nat → Prop} {t x : T} {base ecap d xcap : Nat} {M : Nat → Prop} {R : List Ent} {pre : List Nd} {v : Value} {wr : World} {rs : List T} {ea xa : Option Addr} (h : Stk G t base M (⟨x :: rs, ea, ecap, d⟩ :: R) pre v wr)
    (hx : TyAt G wr x xa xcap) (ht : Tp.size t ≤ 10000) : ndOk t pre ⟨x, d, xa, xcap⟩ := by
  refine ⟨⟨_, by rw [← h.todo, todo_cons]; rfl⟩, hx.1, hx.2.1, Nat.le_trans hx.2.2.1 hx.2.2.2.1, ?_⟩
  have := (h.each _ (List.mem_cons_self ..)).2.2
  dsimp only at this ⊢
  omega
/-- BEHIND A ROUND, ALL OF IT. -/
theorem round_end {t x : T} {n₀ base ecap d xcap g : Nat} {M M' : Nat → Prop} {R E : List Ent} {pre : List Nd} {v v5 : Value} {W wr W3 W5 : World} {rs : List T} {ea xa : Option Addr} {J : (Nat → Prop) → List Nd → World → Prop}
    (hJ : ∀ s, Ab W.heap.size fun M W' => J M s W') (h : Stk (fun b => b < n₀ ∨ b = W.heap.size) t base M (⟨x :: rs, ea, ecap, d⟩ :: R) pre v wr) (hJ3 : J M' (pre ++ [⟨x, d, xa, xcap⟩]) W3) (hM' : ∀ k, M' k → W.heap.size ≤ k ∧ k < W3.heap.size) (hW3 : W.heap.size + 1 ≤ W3.heap.size) (hMB : M' W.heap.size) (hMg : M' g)
    (hT : Turns M' W3 W5) (hG : ∀ k, (k < n₀ ∨ k = W.heap.size) → W5.heap[k]? = wr.heap[k]?) (hE : ∀ e ∈ E, e.good (fun b => b < n₀ ∨ b = W.heap.size) W5 t) (hT' : todo E = Tp.pres x.kids (d + 1) ++ Tp.pres rs d)
    (hown : W5.ownsRow base 185 2 v5 (E ++ R).length (stCells (E ++ R).reverse)) (hy : ∀ y, v5.ownBlock = some y → y = g ∨ W3.heap.size ≤ y) :
    (todo (E ++ R)).length < (todo (⟨x :: rs, ea, ecap, d⟩ :: R)).length ∧ (∃ M R' pre', Stk (fun b => b < n₀ ∨ b = W.heap.size) t base M R' pre' v5 W5 ∧ J M pre' W5 ∧ (∀ k, M k → W.heap.size ≤ k ∧ k < W5.heap.size) ∧ M W.heap.size ∧ W.heap.size + 1 ≤ W5.heap.size ∧ (todo (E ++ R)).length = (todo R').length) := by
  have hs := hT.size
  obtain ⟨k1, k2⟩ := stk_next (M5 := fun k => (M' k ∨ W3.heap.size ≤ k) ∧ k < W5.heap.size) (xa := xa) (xcap := xcap) h hG hE hT' hown (fun y e => by
    have hl := hown.lt y e
    rcases hy y e with h | h
    · subst h; exact ⟨.inl hMg, hl.2⟩
    · exact ⟨.inr h, hl.2⟩)
  refine ⟨k2, _, _, _, k1, hJ _ M' _ W3 W5 hJ3 hM' hT (fun k hk => hk), fun k hk => ⟨?_, hk.2⟩, ⟨.inl hMB, by omega⟩, by omega, rfl⟩
  rcases hk.1 with h | h
  · exact (hM' k h).1
  · omega
end Go.Proofs.Ytaaapdfdedknfaa
