/- Rows of expressions and of patterns that a call builds; types and names that stand for themselves. Two patterns side by side, plainly: right just if both are and no name stands in both. -/
import Derived.Test.YtjaaphahfgogdaaGreatTfA
import Derived.Test.YtjaaphahfgogdaaGreatTcI
import Derived.Test.YtjaaphahfgogdaaGreatPure
import Derived.Test.YtjaaphahfgogdaaGreatTeG
import Derived.Test.YtjaaphahfgogdaaGreatTyS
namespace Go.Proofs.YtjaaphahfgogdaaGreat
open Go Go.RowKit
open Ex (E)

/-- An expression's value, and where it leads. -/
abbrev EL := E × Leads
def elCells (es : List EL) : List Value := es.flatMap fun x => evCells x.1 x.2
theorem ev_len (e : E) (s : Leads) : (evCells e s).length = 16 := rfl
theorem el_get : ∀ (es : List EL) (i : Nat) (h : i < es.length) (j : Nat) (v : Value), (evCells es[i].1 es[i].2)[j]? = some v → (elCells es)[i * 16 + j]? = some v
  | [], i, h, _, _, _ => by simp at h
  | x :: r, 0, _, j, v, hv => by
    have hj : j < (evCells x.1 x.2).length := (List.getElem?_eq_some_iff.1 hv).1
    show (evCells x.1 x.2 ++ elCells r)[0 * 16 + j]? = some v
    rw [Nat.zero_mul, Nat.zero_add, List.getElem?_append_left hj]
    exact hv
  | x :: r, i + 1, h, j, v, hv => by
    have := el_get r i (by simpa using h) j v (by simpa using hv)
    show (evCells x.1 x.2 ++ elCells r)[(i + 1) * 16 + j]? = some v
    rw [List.getElem?_append_right (by rw [ev_len]; omega), ev_len, show (i + 1) * 16 + j - 16 = i * 16 + j from by omega]
    exact this
theorem row_cell {W : World} {b : Nat} {cs : List Value} {t : TypeId} (h : W.heap[b]? = some (.cells cs.toArray t)) {i : Nat} {v : Value} (hv : cs[i]? = some v) : W.cell? ⟨b, i, none⟩ = some v := cell_box h rfl (by simpa using hv)
theorem el_row {G : Nat → Prop} {W : World} {b : Nat} {t : TypeId} (es : List EL) (h : W.heap[b]? = some (.cells (elCells es).toArray t)) (hb : G b) (hx : ∀ x ∈ es, ExAt G W x.1 x.2) : EKids G W (es.map Prod.fst) (some ⟨b, 0, none⟩) := by
  refine EKids.of_nodes hb _ 0 fun i hi => ?_
  have hi' : i < es.length := by simpa using hi
  rw [List.getElem_map]
  refine (hx _ (List.getElem_mem hi')).node fun j v hv => ?_
  rw [Nat.zero_add]
  exact row_cell h (el_get es i hi' j v hv)
/-- A pattern's value, and where it leads. -/
structure PL where
  t : Tr.P
  a : Option Addr
  cap : Nat
def pvCells (x : PL) : List Value := [.int .i64 x.t.kind, .int .i64 x.t.frm, .int .i64 x.t.til, .string ⟨x.t.nm.toArray⟩, .int .i64 x.t.num, .string ⟨x.t.s.toArray⟩, .slice x.a x.t.kids.length x.cap]
def plCells (es : List PL) : List Value := es.flatMap pvCells
theorem pv_len (x : PL) : (pvCells x).length = 7 := rfl
theorem pl_get : ∀ (es : List PL) (i : Nat) (h : i < es.length) (j : Nat) (v : Value), (pvCells es[i])[j]? = some v → (plCells es)[i * 7 + j]? = some v
  | [], i, h, _, _, _ => by simp at h
  | x :: r, 0, _, j, v, hv => by
    have hj : j < (pvCells x).length := (List.getElem?_eq_some_iff.1 hv).1
    show (pvCells x ++ plCells r)[0 * 7 + j]? = some v
    rw [Nat.zero_mul, Nat.zero_add, List.getElem?_append_left hj]
    exact hv
  | x :: r, i + 1, h, j, v, hv => by
    have := pl_get r i (by simpa using h) j v (by simpa using hv)
    show (pvCells x ++ plCells r)[(i + 1) * 7 + j]? = some v
    rw [List.getElem?_append_right (by rw [pv_len]; omega), pv_len, show (i + 1) * 7 + j - 7 = i * 7 + j from by omega]
    exact this
theorem pl_row {G : Nat → Prop} {W : World} {b : Nat} {t : TypeId} (es : List PL) (h : W.heap[b]? = some (.cells (plCells es).toArray t)) (hb : G b) (hx : ∀ x ∈ es, PatAt G W x.t x.a x.cap) : PKids G W (es.map PL.t) (some ⟨b, 0, none⟩) := by
  refine PKids.of_nodes hb _ 0 fun i hi => ?_
  have hi' : i < es.length := by simpa using hi
  rw [List.getElem_map]
  have hc : ∀ j v, (pvCells es[i])[j]? = some v → W.cell? ⟨b, 0 + i * 7 + j, none⟩ = some v := fun j v hv => by
    rw [Nat.zero_add]
    exact row_cell h (pl_get es i hi' j v hv)
  exact PNode.mk' (hx _ (List.getElem_mem hi')) ⟨hc 0 _ rfl, hc 1 _ rfl, hc 2 _ rfl, hc 3 _ rfl, hc 4 _ rfl, hc 5 _ rfl, hc 6 _ rfl⟩
theorem PatAt.moved {G G' : Nat → Prop} {W W' : World} {p : Tr.P} {a : Option Addr} {cap : Nat} (hx : PatAt G W p a cap) (h : ∀ b o, G b → W'.cell? ⟨b, o, none⟩ = W.cell? ⟨b, o, none⟩) (hn : ∀ b, G b → G' b) : PatAt G' W' p a cap :=
  ⟨hx.1, hx.2.1, hx.2.2.1, PKids.mono h hn _ a hx.2.2.2⟩
/-- A type without kids. -/
theorem ty_leaf (G : Nat → Prop) (W : World) {k n : Int} (hk : I64 k) (hn : I64 n) : TyAt G W (.mk k n []) none 0 := ⟨hk, hn, Nat.le_refl _, Nat.zero_le _, by show KidsAt G W [] none; simp [KidsAt]⟩
theorem i64_small {k : Int} (h : 0 ≤ k ∧ k ≤ 1000) : I64 k := by unfold I64; omega
/-- Of an expression, its cells aside: what is asked where it lies. -/
theorem ex_at {G : Nat → Prop} {W : World} {k f t : Int} {nm ar : List UInt8} {n : Int} {str : List UInt8} {op : Int} {A B : Tp.T} {ps : List Tr.P} {l : List E} {s : Leads} (h0 : I64 k ∧ I64 n ∧ I64 op) (ha : TyAt G W A s.aa s.ac) (hb : TyAt G W B s.ba s.bc)
    (hp : ps.length ≤ s.pc ∧ s.pc ≤ maxLen) (hps : PKids G W ps s.pa) (hl : l.length ≤ s.kc ∧ s.kc ≤ maxLen) (hks : EKids G W l s.ka) : ExAt G W (.mk k f t nm ar n str op A B ps l) s := ⟨h0, ha, hb, hp, hps, hl, hks⟩
end Go.Proofs.YtjaaphahfgogdaaGreat
namespace Go.Proofs.YtjaaphahfgogdaaGreat
open Go Go.RowKit
open Tr (P)

def pairP (p q : P) : P := .mk 7 0 0 0 [] [] [p, q]
def consP (p q : P) : P := .mk 9 0 0 0 [] [] [p, q]
/-- May two patterns stand side by side, as far as the first k names of the first are looked at? -/
def mayK (p q : P) (k : Nat) : Bool := Tr.right p && Tr.right q && ((Tr.names p).take k).all fun s => decide (s ∉ Tr.names q)
theorem mayK_zero (p q : P) : mayK p q 0 = (Tr.right p && Tr.right q) := by simp [mayK]
theorem mayK_succ {p q : P} {k : Nat} (h : k < (Tr.names p).length) : mayK p q (k + 1) = (mayK p q k && !decide ((Tr.names p)[k] ∈ Tr.names q)) := by
  unfold mayK
  rw [List.take_succ_eq_append_getElem h, List.all_append, ← Bool.and_assoc]
  simp
theorem two_right (k : Int) (hk : k = 7 ∨ k = 9) (p q : P) : Tr.right (.mk k 0 0 0 [] [] [p, q]) = (Tr.right p && Tr.right q && (Tr.names p).all fun s => decide (s ∉ Tr.names q)) := by
  have hn : Tr.nodeRight k 0 [] [] 2 = true := by rcases hk with rfl | rfl <;> rfl
  have hnn : Tr.names (.mk k 0 0 0 [] [] [p, q]) = Tr.names p ++ Tr.names q := by
    have : ¬ k = 2 := by omega
    simp [Tr.names, Tr.namess, this]
  have h1 : Tr.right1 (.mk k 0 0 0 [] [] [p, q]) = (Tr.right1 p && Tr.right1 q) := by
    simp only [Tr.right1, Tr.rights1, Bool.and_true]
    show (Tr.nodeRight k 0 [] [] 2 && _) = _
    rw [hn, Bool.true_and]
  unfold Tr.right
  rw [h1, hnn]
  unfold Tr.distinct
  rw [Bool.eq_iff_iff]
  simp only [Bool.and_eq_true, decide_eq_true_eq, List.nodup_append, List.all_eq_true]
  constructor
  · rintro ⟨⟨a, b⟩, c, d, e⟩
    exact ⟨⟨⟨a, c⟩, b, d⟩, fun x hx hm => e x hx x hm rfl⟩
  · rintro ⟨⟨⟨a, c⟩, b, d⟩, e⟩
    refine ⟨⟨a, b⟩, c, d, fun x hx y hy h => e x hx (h ▸ hy)⟩
theorem pair_right (p q : P) : Tr.right (pairP p q) = mayK p q (Tr.names p).length := by
  unfold pairP mayK
  rw [two_right 7 (.inl rfl), List.take_of_length_le (Nat.le_refl _)]
theorem cons_right (p q : P) : Tr.right (consP q p) = mayK p q (Tr.names p).length := by
  unfold consP mayK
  rw [two_right 9 (.inr rfl), List.take_of_length_le (Nat.le_refl _), Bool.eq_iff_iff]
  simp only [Bool.and_eq_true, List.all_eq_true, decide_eq_true_eq]
  constructor
  · rintro ⟨⟨a, b⟩, c⟩
    exact ⟨⟨b, a⟩, fun x hx hm => c x hm hx⟩
  · rintro ⟨⟨a, b⟩, c⟩
    exact ⟨⟨b, a⟩, fun x hx hm => c x hm hx⟩
theorem small_of {p : P} (h : decide (400 < Tr.cnt p 0) = false) : Tr.short p = true ∧ Tr.size p ≤ 401 := by
  have h1 := of_decide_eq_false h
  obtain ⟨h2, h3⟩ := Tr.cnt_small p 0 (by omega)
  exact ⟨h2, by rw [Tr.size_kids]; omega⟩
theorem two_small {p q : P} (k : Int) (hp : Tr.short p = true ∧ Tr.size p ≤ 401) (hq : Tr.short q = true ∧ Tr.size q ≤ 401) : Tr.short (.mk k 0 0 0 [] [] [p, q]) = true ∧ Tr.size (.mk k 0 0 0 [] [] [p, q]) ≤ 10000 := by
  refine ⟨by simp [Tr.short, Tr.shorts, hp.1, hq.1], ?_⟩
  have := hp.2; have := hq.2
  simp [Tr.size, Tr.sizes]; omega
theorem names_len (p : P) : (Tr.names p).length ≤ Tr.size p := by
  rw [← Tr.pre_names p 1, ← Tr.pre_len p 1]
  exact keyNames_length _
theorem err_ok (b : Bool) : ((errOf b : Int) == 0) = b := by cases b <;> rfl
theorem err_bad : ((errOf false : Int) == 1) = true := rfl
end Go.Proofs.YtjaaphahfgogdaaGreat
