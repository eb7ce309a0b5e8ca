/- Rows of expressions and of patterns that a call builds; types and names that stand for themselves. -/
import Derived.Test.YtmmhpibkjdlkgaaGreatTfA
import Derived.Test.YtmmhpibkjdlkgaaGreatTcI
namespace Go.Proofs.YtmmhpibkjdlkgaaGreat
open Go Go.RowKit
open Ex (E)

/-- An expression's value, and where it leads. -/
abbrev EL := E × Leads
def elCells (es : List EL) : List Value := es.flatMap fun x => evCells x.1 x.2
theorem ev_len (e : E) (s : Leads) : (evCells e s).length = 16 := rfl
theorem el_get : ∀ (es : List EL) (i : Nat) (h : i < es.length) (j : Nat) (v : Value), (evCells es[i].1 es[i].2)[j]? = some v → (elCells es)[i * 16 + j]? = some v
  | [], i, h, _, _, _ => by simp at h
  | x :: r, 0, _, j, v, hv => by
    have hj : j < (evCells x.1 x.2).length := (List.getElem?_eq_some_iff.1 hv).1
    show (evCells x.1 x.2 ++ elCells r)[0 * 16 + j]? = some v
    rw [Nat.zero_mul, Nat.zero_add, List.getElem?_append_left hj]
    exact hv
  | x :: r, i + 1, h, j, v, hv => by
    have := el_get r i (by simpa using h) j v (by simpa using hv)
    show (evCells x.1 x.2 ++ elCells r)[(i + 1) * 16 + j]? = some v
    rw [List.getElem?_append_right (by rw [ev_len]; omega), ev_len, show (i + 1) * 16 + j - 16 = i * 16 + j from by omega]
    exact this
theorem row_cell {W : World} {b : Nat} {cs : List Value} {t : TypeId} (h : W.heap[b]? = some (.cells cs.toArray t)) {i : Nat} {v : Value} (hv : cs[i]? = some v) : W.cell? ⟨b, i, none⟩ = some v := cell_box h rfl (by simpa using hv)
theorem el_row {G : Nat → Prop} {W : World} {b : Nat} {t : TypeId} (es : List EL) (h : W.heap[b]? = some (.cells (elCells es).toArray t)) (hb : G b) (hx : ∀ x ∈ es, ExAt G W x.1 x.2) : EKids G W (es.map Prod.fst) (some ⟨b, 0, none⟩) := by
  refine EKids.of_nodes hb _ 0 fun i hi => ?_
  have hi' : i < es.length := by simpa using hi
  rw [List.getElem_map]
  refine (hx _ (List.getElem_mem hi')).node fun j v hv => ?_
  rw [Nat.zero_add]
  exact row_cell h (el_get es i hi' j v hv)
/-- A pattern's value, and where it leads. -/
structure PL where
  t : Tr.P
  a : Option Addr
  cap : Nat
def pvCells (x : PL) : List Value := [.int .i64 x.t.kind, .int .i64 x.t.frm, .int .i64 x.t.til, .string ⟨x.t.nm.toArray⟩, .int .i64 x.t.num, .string ⟨x.t.s.toArray⟩, .slice x.a x.t.kids.length x.cap]
def plCells (es : List PL) : List Value := es.flatMap pvCells
/-- A type without kids. -/
theorem ty_leaf (G : Nat → Prop) (W : World) {k n : Int} (hk : I64 k) (hn : I64 n) : TyAt G W (.mk k n []) none 0 := ⟨hk, hn, Nat.le_refl _, Nat.zero_le _, by show KidsAt G W [] none; simp [KidsAt]⟩
theorem i64_small {k : Int} (h : 0 ≤ k ∧ k ≤ 1000) : I64 k := by unfold I64; omega
/-- Of an expression, its cells aside: what is asked where it lies. -/
theorem ex_at {G : Nat → Prop} {W : World} {k f t : Int} {nm ar : List UInt8} {n : Int} {str : List UInt8} {op : Int} {A B : Tp.T} {ps : List Tr.P} {l : List E} {s : Leads} (h0 : I64 k ∧ I64 n ∧ I64 op) (ha : TyAt G W A s.aa s.ac) (hb : TyAt G W B s.ba s.bc)
    (hp : ps.length ≤ s.pc ∧ s.pc ≤ maxLen) (hps : PKids G W ps s.pa) (hl : l.length ≤ s.kc ∧ s.kc ≤ maxLen) (hks : EKids G W l s.ka) : ExAt G W (.mk k f t nm ar n str op A B ps l) s := ⟨h0, ha, hb, hp, hps, hl, hks⟩
end Go.Proofs.YtmmhpibkjdlkgaaGreat
