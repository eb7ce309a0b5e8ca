/- What a type argument's reading gives: a tree that lies in memory. What a pattern argument's reading gives: a pattern that lies in memory. What an expression argument's reading gives: an expression that lies in memory. -/
import Derived.Test.YtmmhpibkjdlkgaaGreatRows
import Derived.Test.YtmmhpibkjdlkgaaGreatTpP
import Derived.ProofKit
import Derived.OpenShut
import Derived.Carry
import Derived.Deep.Strs
import Derived.Deep.Fields
import Derived.Test.YtmmhpibkjdlkgaaGreatPure
import Derived.Test.YtmmhpibkjdlkgaaGreatTxA
namespace Go.Proofs.YtmmhpibkjdlkgaaGreat
open Go Go.ChangeShapes Go.WideShapes Go.ChangeAt Go.RowKit
open Tp (T)

theorem ownKn : ownKnob Tryz.prog.godebug = none := by kernel_rfl
theorem laidOut : laidOutB Tryz.prog = true := by kernel_rfl
theorem cells_ty : Tryz.prog.cellsOf 26 = 3 := by kernel_rfl
variable {H : Type} {enc : TypeId × Value → H} {W : World} {sp : Nat → Bool} {held : Bool}
theorem spot_none {a : Addr} {v : Value} (h : W.cell? a = some v) : a.spot = none := by
  unfold World.cell? at h
  split at h
  · split at h
    · cases h
    · rename_i hs; cases e : a.spot with
      | none => rfl
      | some x => rw [e] at hs; simp at hs
  · cases h
theorem cell_lt' {b o i : Nat} {v : Value} (h : W.cell? ((⟨b, o, none⟩ : Addr).add i) = some v) : b < W.heap.size := by
  rw [add_flat] at h; exact cell_lt h
theorem rows_of {P : Nat → T → Prop} : ∀ (len : Nat), (∀ i, i < len → ∃ t, P i t) → ∃ ts : List T, ts.length = len ∧ ∀ i (h : i < ts.length), P i ts[i]
  | 0, _ => ⟨[], rfl, fun i h => by simp at h⟩
  | n + 1, h => by
    obtain ⟨ts, h1, h2⟩ := rows_of n fun i hi => h i (by omega)
    obtain ⟨t, ht⟩ := h n (by omega)
    refine ⟨ts ++ [t], by simp [h1], fun i hi => ?_⟩
    by_cases e : i < ts.length
    · rw [List.getElem_append_left e]; exact h2 i e
    · have : i = n := by simp at hi; omega
      subst this
      rw [List.getElem_append_right (by omega)]
      simpa [h1] using ht
set_option maxRecDepth 100000 in
theorem trod_ty : ∀ (fuel : Nat) (cs : List Value) (x : DataW H × List MemPlace), DataW.trod enc Tryz.prog W 0 sp held fuel 26 cs = some x →
    ∃ (t : T) (a : Option Addr) (cap : Nat), cs = [.int .i64 t.kind, .int .i64 t.num, .slice a t.kids.length cap] ∧ TyAt (LT W.heap.size) W t a cap := by
  intro fuel
  induction fuel using Nat.strongRecOn with
  | ind fuel ih =>
    intro cs x h
    obtain ⟨xs, n, rfl, -, hl, hlen, hf⟩ := DataW.trod_struct Tryz.underlying26 h
    rw [cells_ty] at hl
    match cs, hl, xs, hlen with
    | [c0, c1, c2], _, [y0, y1, y2], _ =>
      have h0 := hf 0 _ rfl
      have h1 := hf 1 _ rfl
      have h2 := hf 2 _ rfl
      simp only [List.getElem?_cons_zero, List.getElem?_cons_succ] at h0 h1 h2
      obtain ⟨k, e0, -, w0⟩ := DataW.trod_int Tryz.underlying3 h0
      obtain ⟨m, e1, -, w1⟩ := DataW.trod_int Tryz.underlying3 h1
      injection e0 with e0; injection e1 with e1
      subst e0 e1
      rcases DataW.trod_slice Tryz.underlying24 h2 with ⟨e2, -⟩ | ⟨a, len, cap, elems, rest, n', hn', e2, -, hb, hlc, hcm, hel, hea, -, -⟩
      · injection e2 with e2; subst e2
        exact ⟨.mk k m [], none, 0, rfl, bounds_i64 w0, bounds_i64 w1, by simp [T.kids, Tp.T.kids], by unfold maxLen; omega, by simp [Tp.T.kids, KidsAt]⟩
      · injection e2 with e2; subst e2
        -- each of the kids, by the hypothesis
        have each : ∀ i, i < len → ∃ (t : T) (a' : Option Addr) (cap' : Nat), W.cell? (a.add (i * 3)) = some (.int .i64 t.kind) ∧ W.cell? ((a.add (i * 3)).add 1) = some (.int .i64 t.num) ∧ W.cell? ((a.add (i * 3)).add 2) = some (.slice a' t.kids.length cap') ∧ TyAt (LT W.heap.size) W t a' cap' := by
          intro i hi
          have hx := hea i hi
          rw [cells_ty, List.getElem?_eq_getElem (by omega)] at hx
          cases hc : W.cells? 0 (a.add (i * 3)) 3 with
          | none => rw [hc] at hx; cases hx
          | some cs' =>
            rw [hc] at hx
            obtain ⟨t, a', cap', rfl, ht⟩ := ih n' (by omega) cs' _ hx
            obtain ⟨_, _, hcell⟩ := World.cells?_some hc
            refine ⟨t, a', cap', ?_, hcell 1 (by omega), hcell 2 (by omega), ht⟩
            have := hcell 0 (by omega)
            have e : (a.add (i * 3)).add 0 = a.add (i * 3) := by unfold Addr.add; cases a.spot <;> rfl
            rw [e] at this; exact this
        obtain ⟨ts, hts, hall⟩ : ∃ ts : List T, ts.length = len ∧ ∀ i (h : i < ts.length), ∃ (a' : Option Addr) (cap' : Nat), W.cell? (a.add (i * 3)) = some (.int .i64 ts[i].kind) ∧ W.cell? ((a.add (i * 3)).add 1) = some (.int .i64 ts[i].num) ∧ W.cell? ((a.add (i * 3)).add 2) = some (.slice a' ts[i].kids.length cap') ∧ TyAt (LT W.heap.size) W ts[i] a' cap' := by
          exact rows_of len each
        refine ⟨.mk k m ts, some a, cap, by simp [Tp.T.kind, Tp.T.num, Tp.T.kids, hts], bounds_i64 w0, bounds_i64 w1, by simp only [Tp.T.kids]; omega, hcm, ?_⟩
        simp only [Tp.T.kids]
        cases ts with
        | nil => simp [KidsAt]
        | cons t0 r =>
          obtain ⟨a0, cap0, q0, _⟩ := hall 0 (by simp)
          have e00 : a.add (0 * 3) = a := by unfold Addr.add; simp
          have hs : a.spot = none := by have := spot_none q0; rw [e00] at this; exact this
          obtain ⟨b, o, s⟩ := a
          dsimp only at hs
          subst hs
          have hlt := cell_lt' q0
          refine KidsAt.of_nodes (G := LT W.heap.size) (b := b) (by unfold LT; exact hlt) _ o (fun i hi => ?_)
          obtain ⟨a', cap', r0, r1, r2, r3⟩ := hall i hi
          rw [add_flat] at r0; rw [add_flat, add_flat] at r1 r2
          exact NodeAt.mk' r3 r0 r1 r2
end Go.Proofs.YtmmhpibkjdlkgaaGreat
namespace Go.Proofs.YtmmhpibkjdlkgaaGreat
open Go Go.ChangeShapes Go.WideShapes Go.ChangeAt Go.RowKit
open Tr (P)

theorem cells_pat : Tryz.prog.cellsOf 50 = 7 := by kernel_rfl
theorem cells_span : Tryz.prog.cellsOf 23 = 2 := by kernel_rfl
variable {H : Type} {enc : TypeId × Value → H} {W : World} {sp : Nat → Bool} {held : Bool}
set_option maxRecDepth 100000 in
theorem trod_span {fuel : Nat} {cs : List Value} {x : DataW H × List MemPlace} (h : DataW.trod enc Tryz.prog W 0 sp held fuel 23 cs = some x) : ∃ f t : Int, cs = [.int .i64 f, .int .i64 t] := by
  obtain ⟨xs, n, rfl, -, hl, hlen, hf⟩ := DataW.trod_struct Tryz.underlying23 h
  rw [cells_span] at hl
  match cs, hl, xs, hlen with
  | [c0, c1], _, [y0, y1], _ =>
    have h0 := hf 0 _ rfl
    have h1 := hf 1 _ rfl
    simp only [List.getElem?_cons_zero, List.getElem?_cons_succ] at h0 h1
    obtain ⟨k, e0, -, -⟩ := DataW.trod_int Tryz.underlying3 h0
    obtain ⟨m, e1, -, -⟩ := DataW.trod_int Tryz.underlying3 h1
    injection e0 with e0; injection e1 with e1
    exact ⟨k, m, by rw [e0, e1]⟩
theorem rows_ofP {Q : Nat → P → Prop} : ∀ (len : Nat), (∀ i, i < len → ∃ t, Q i t) → ∃ ts : List P, ts.length = len ∧ ∀ i (h : i < ts.length), Q i ts[i]
  | 0, _ => ⟨[], rfl, fun i h => by simp at h⟩
  | n + 1, h => by
    obtain ⟨ts, h1, h2⟩ := rows_ofP n fun i hi => h i (by omega)
    obtain ⟨t, ht⟩ := h n (by omega)
    refine ⟨ts ++ [t], by simp [h1], fun i hi => ?_⟩
    by_cases e : i < ts.length
    · rw [List.getElem_append_left e]; exact h2 i e
    · have : i = n := by simp at hi; omega
      subst this
      rw [List.getElem_append_right (by omega)]
      simpa [h1] using ht
/-- The seven cells from an address on. -/
def PCellsA (W : World) (q : Addr) (p : P) (a : Option Addr) (cap : Nat) : Prop :=
  W.cell? q = some (.int .i64 p.kind) ∧ W.cell? (q.add 1) = some (.int .i64 p.frm) ∧ W.cell? (q.add 2) = some (.int .i64 p.til) ∧ W.cell? (q.add 3) = some (.string ⟨p.nm.toArray⟩) ∧ W.cell? (q.add 4) = some (.int .i64 p.num) ∧ W.cell? (q.add 5) = some (.string ⟨p.s.toArray⟩) ∧ W.cell? (q.add 6) = some (.slice a p.kids.length cap)
set_option maxRecDepth 100000 in
theorem trod_pat : ∀ (fuel : Nat) (cs : List Value) (x : DataW H × List MemPlace), DataW.trod enc Tryz.prog W 0 sp held fuel 50 cs = some x →
    ∃ (p : P) (a : Option Addr) (cap : Nat), cs = [.int .i64 p.kind, .int .i64 p.frm, .int .i64 p.til, .string ⟨p.nm.toArray⟩, .int .i64 p.num, .string ⟨p.s.toArray⟩, .slice a p.kids.length cap] ∧ PatAt (LT W.heap.size) W p a cap := by
  intro fuel
  induction fuel using Nat.strongRecOn with
  | ind fuel ih =>
    intro cs x h
    obtain ⟨xs, n, rfl, -, hl, hlen, hf⟩ := DataW.trod_struct Tryz.underlying50 h
    rw [cells_pat] at hl
    match cs, hl, xs, hlen with
    | [c0, c1, c2, c3, c4, c5, c6], _, [y0, y1, y2, y3, y4, y5], _ =>
      have h0 := hf 0 _ rfl
      have h1 := hf 1 _ rfl
      have h2 := hf 2 _ rfl
      have h3 := hf 3 _ rfl
      have h4 := hf 4 _ rfl
      have h5 := hf 5 _ rfl
      simp only [List.getElem?_cons_zero, List.getElem?_cons_succ] at h0 h1 h2 h3 h4 h5
      obtain ⟨k, e0, -, w0⟩ := DataW.trod_int Tryz.underlying3 h0
      obtain ⟨f, t, e1⟩ := trod_span h1
      obtain ⟨nm, e3, -, -⟩ := DataW.trod_string Tryz.underlying9 h2
      obtain ⟨m, e4, -, w4⟩ := DataW.trod_int Tryz.underlying2 h3
      obtain ⟨s, e5, -, -⟩ := DataW.trod_string Tryz.underlying9 h4
      injection e0 with e0; injection e1 with e1 e2; injection e2 with e2; injection e3 with e3; injection e4 with e4; injection e5 with e5
      subst e0 e1 e2 e3 e4 e5
      rcases DataW.trod_slice Tryz.underlying27 h5 with ⟨e6, -⟩ | ⟨a, len, cap, elems, rest, n', hn', e6, -, hb, hlc, hcm, hel, hea, -, -⟩
      · injection e6 with e6; subst e6
        exact ⟨.mk k f t m nm.data.toList s.data.toList [], none, 0, by simp [Tr.P.kind, Tr.P.frm, Tr.P.til, Tr.P.nm, Tr.P.num, Tr.P.s, Tr.P.kids], ⟨bounds_i64 w0, bounds_i64 w4⟩, by simp [Tr.P.kids], by unfold maxLen; omega, by simp [Tr.P.kids, PKids]⟩
      · injection e6 with e6; subst e6
        have each : ∀ i, i < len → ∃ (t : P) (a' : Option Addr) (cap' : Nat), PCellsA W (a.add (i * 7)) t a' cap' ∧ PatAt (LT W.heap.size) W t a' cap' := by
          intro i hi
          have hx := hea i hi
          rw [cells_pat, List.getElem?_eq_getElem (by omega)] at hx
          cases hc : W.cells? 0 (a.add (i * 7)) 7 with
          | none => rw [hc] at hx; cases hx
          | some cs' =>
            rw [hc] at hx
            obtain ⟨t, a', cap', rfl, ht⟩ := ih n' (by omega) cs' _ hx
            obtain ⟨_, _, hcell⟩ := World.cells?_some hc
            have e : (a.add (i * 7)).add 0 = a.add (i * 7) := by unfold Addr.add; simp
            refine ⟨t, a', cap', ⟨?_, hcell 1 (by omega), hcell 2 (by omega), hcell 3 (by omega), hcell 4 (by omega), hcell 5 (by omega), hcell 6 (by omega)⟩, ht⟩
            have := hcell 0 (by omega)
            rw [e] at this; exact this
        obtain ⟨ts, hts, hall⟩ : ∃ ts : List P, ts.length = len ∧ ∀ i (h : i < ts.length), ∃ (a' : Option Addr) (cap' : Nat), PCellsA W (a.add (i * 7)) ts[i] a' cap' ∧ PatAt (LT W.heap.size) W ts[i] a' cap' := rows_ofP len each
        refine ⟨.mk k f t m nm.data.toList s.data.toList ts, some a, cap, by simp [Tr.P.kind, Tr.P.frm, Tr.P.til, Tr.P.nm, Tr.P.num, Tr.P.s, Tr.P.kids, hts], ⟨bounds_i64 w0, bounds_i64 w4⟩, by simp only [Tr.P.kids]; omega, hcm, ?_⟩
        simp only [Tr.P.kids]
        cases ts with
        | nil => simp [PKids]
        | cons t0 r =>
          obtain ⟨a0, cap0, q0, _⟩ := hall 0 (by simp)
          have e00 : a.add (0 * 7) = a := by unfold Addr.add; simp
          have hs : a.spot = none := by have := spot_none q0.1; rw [e00] at this; exact this
          obtain ⟨b, o, sp⟩ := a
          dsimp only at hs
          subst hs
          have hlt := cell_lt' q0.1
          refine PKids.of_nodes (G := LT W.heap.size) (b := b) (by unfold LT; exact hlt) _ o (fun i hi => ?_)
          obtain ⟨a', cap', ⟨r0, r1, r2, r3, r4, r5, r6⟩, r7⟩ := hall i hi
          rw [add_flat] at r0; rw [add_flat, add_flat] at r1 r2 r3 r4 r5 r6
          exact PNode.mk' r7 ⟨r0, r1, r2, r3, r4, r5, r6⟩
end Go.Proofs.YtmmhpibkjdlkgaaGreat
namespace Go.Proofs.YtmmhpibkjdlkgaaGreat
open Go Go.ChangeShapes Go.WideShapes Go.ChangeAt Go.RowKit
open Ex (E)

theorem cells_expr : Tryz.prog.cellsOf 30 = 16 := by kernel_rfl
variable {H : Type} {enc : TypeId × Value → H} {W : World} {sp : Nat → Bool} {held : Bool}
theorem rows_ofG {α : Type} {Q : Nat → α → Prop} : ∀ (len : Nat), (∀ i, i < len → ∃ t, Q i t) → ∃ ts : List α, ts.length = len ∧ ∀ i (h : i < ts.length), Q i ts[i]
  | 0, _ => ⟨[], rfl, fun i h => by simp at h⟩
  | n + 1, h => by
    obtain ⟨ts, h1, h2⟩ := rows_ofG n fun i hi => h i (by omega)
    obtain ⟨t, ht⟩ := h n (by omega)
    refine ⟨ts ++ [t], by simp [h1], fun i hi => ?_⟩
    by_cases e : i < ts.length
    · rw [List.getElem_append_left e]; exact h2 i e
    · have : i = n := by simp at hi; omega
      subst this
      rw [List.getElem_append_right (by omega)]
      simpa [h1] using ht
/-- A row of patterns, as a slice's reading gives it. -/
theorem trod_pats {fuel : Nat} {cs : List Value} {x : DataW H × List MemPlace} (h : DataW.trod enc Tryz.prog W 0 sp held fuel 27 cs = some x) : ∃ (ts : List Tr.P) (a : Option Addr) (cap : Nat), cs = [.slice a ts.length cap] ∧ ts.length ≤ cap ∧ cap ≤ maxLen ∧ PKids (LT W.heap.size) W ts a := by
  rcases DataW.trod_slice Tryz.underlying27 h with ⟨e6, -⟩ | ⟨a, len, cap, elems, rest, n', hn', e6, -, hb, hlc, hcm, hel, hea, -, -⟩
  · exact ⟨[], none, 0, e6, Nat.le_refl _, Nat.zero_le _, by simp [PKids]⟩
  · have each : ∀ i, i < len → ∃ (t : Tr.P), ∃ (a' : Option Addr) (cap' : Nat), PCellsA W (a.add (i * 7)) t a' cap' ∧ PatAt (LT W.heap.size) W t a' cap' := by
      intro i hi
      have hx := hea i hi
      rw [cells_pat, List.getElem?_eq_getElem (by omega)] at hx
      cases hc : W.cells? 0 (a.add (i * 7)) 7 with
      | none => rw [hc] at hx; cases hx
      | some cs' =>
        rw [hc] at hx
        obtain ⟨t, a', cap', rfl, ht⟩ := trod_pat n' cs' _ hx
        obtain ⟨_, _, hcell⟩ := World.cells?_some hc
        have e : (a.add (i * 7)).add 0 = a.add (i * 7) := by unfold Addr.add; simp
        refine ⟨t, a', cap', ⟨?_, hcell 1 (by omega), hcell 2 (by omega), hcell 3 (by omega), hcell 4 (by omega), hcell 5 (by omega), hcell 6 (by omega)⟩, ht⟩
        have := hcell 0 (by omega)
        rw [e] at this; exact this
    obtain ⟨ts, hts, hall⟩ := rows_ofG len each
    refine ⟨ts, some a, cap, by rw [hts]; exact e6, by omega, hcm, ?_⟩
    cases ts with
    | nil => simp [PKids]
    | cons t0 r =>
      obtain ⟨a0, cap0, q0, _⟩ := hall 0 (by simp)
      have e00 : a.add (0 * 7) = a := by unfold Addr.add; simp
      have hs : a.spot = none := by have := spot_none q0.1; rw [e00] at this; exact this
      obtain ⟨b, o, sp⟩ := a
      dsimp only at hs
      subst hs
      have hlt := cell_lt' q0.1
      refine PKids.of_nodes (G := LT W.heap.size) (b := b) (by unfold LT; exact hlt) _ o (fun i hi => ?_)
      obtain ⟨a', cap', ⟨r0, r1, r2, r3, r4, r5, r6⟩, r7⟩ := hall i hi
      rw [add_flat] at r0; rw [add_flat, add_flat] at r1 r2 r3 r4 r5 r6
      exact PNode.mk' r7 ⟨r0, r1, r2, r3, r4, r5, r6⟩
theorem EKids.of_nodes {G : Nat → Prop} {W : World} {b : Nat} (hb : G b) : ∀ (l : List E) (o : Nat), (∀ i (h : i < l.length), ENode G W l[i] b (o + i * 16)) → EKids G W l (some ⟨b, o, none⟩)
  | [], _, _ => by simp [EKids]
  | t :: r, o, h => by
    simp only [EKids]
    refine ⟨b, o, rfl, hb, by have := h 0 (Nat.succ_pos _); rw [Nat.zero_mul, Nat.add_zero] at this; exact this, EKids.of_nodes hb r (o + 16) (fun i hi => ?_)⟩
    have := h (i + 1) (by simpa using hi)
    rw [show o + (i + 1) * 16 = o + 16 + i * 16 from by omega] at this
    exact this
theorem ExAt.node {G : Nat → Prop} {W : World} {e : E} {s : Leads} {b o : Nat} (h : ExAt G W e s) (hc : ∀ (i : Nat) (v : Value), (evCells e s)[i]? = some v → W.cell? ⟨b, o + i, none⟩ = some v) : ENode G W e b o := by
  obtain ⟨h0, hta, htb, hlp, hps, hlk, hks⟩ := h
  have c0 := hc 0 _ rfl
  cases e with
  | mk k f t nm ar num str op A B pl l =>
    simp only [ENode]
    exact ⟨⟨h0, c0, hc 1 _ rfl, hc 2 _ rfl, hc 3 _ rfl, hc 4 _ rfl, hc 5 _ rfl, hc 6 _ rfl, hc 7 _ rfl, NodeAt.mk' hta (hc 8 _ rfl) (hc 9 _ rfl) (hc 10 _ rfl), NodeAt.mk' htb (hc 11 _ rfl) (hc 12 _ rfl) (hc 13 _ rfl), s.pa, s.pc, hc 14 _ rfl, hlp.1, hlp.2, hps⟩, s.ka, s.kc, hc 15 _ rfl, hlk.1, hlk.2, hks⟩
set_option maxRecDepth 100000 in
set_option maxHeartbeats 1000000 in
theorem trod_expr : ∀ (fuel : Nat) (cs : List Value) (x : DataW H × List MemPlace), DataW.trod enc Tryz.prog W 0 sp held fuel 30 cs = some x → ∃ (e : E) (s : Leads), cs = evCells e s ∧ ExAt (LT W.heap.size) W e s := by
  intro fuel
  induction fuel using Nat.strongRecOn with
  | ind fuel ih =>
    intro cs x h
    obtain ⟨xs, n, rfl, -, hl, hlen, hf⟩ := DataW.trod_struct Tryz.underlying30 h
    rw [cells_expr] at hl
    match cs, hl, xs, hlen with
    | [c0, c1, c2, c3, c4, c5, c6, c7, c8, c9, c10, c11, c12, c13, c14, c15], _, [y0, y1, y2, y3, y4, y5, y6, y7, y8, y9, y10], _ =>
      have h0 := hf 0 _ rfl
      have h1 := hf 1 _ rfl
      have h2 := hf 2 _ rfl
      have h3 := hf 3 _ rfl
      have h4 := hf 4 _ rfl
      have h5 := hf 5 _ rfl
      have h6 := hf 6 _ rfl
      have h7 := hf 7 _ rfl
      have h8 := hf 8 _ rfl
      have h9 := hf 9 _ rfl
      have h10 := hf 10 _ rfl
      simp only [List.getElem?_cons_zero, List.getElem?_cons_succ] at h0 h1 h2 h3 h4 h5 h6 h7 h8 h9 h10
      obtain ⟨k, e0, -, w0⟩ := DataW.trod_int Tryz.underlying3 h0
      obtain ⟨f, t, e1⟩ := trod_span h1
      obtain ⟨nm, e3, -, -⟩ := DataW.trod_string Tryz.underlying9 h2
      obtain ⟨ar, e4, -, -⟩ := DataW.trod_string Tryz.underlying9 h3
      obtain ⟨m, e5, -, w5⟩ := DataW.trod_int Tryz.underlying2 h4
      obtain ⟨s, e6, -, -⟩ := DataW.trod_string Tryz.underlying9 h5
      obtain ⟨op, e7, -, w7⟩ := DataW.trod_int Tryz.underlying3 h6
      obtain ⟨A, aa, ac, eA, tA⟩ := trod_ty _ _ _ h7
      obtain ⟨B, ba, bc, eB, tB⟩ := trod_ty _ _ _ h8
      obtain ⟨ps, pa, pc, eP, p1, p2, p3⟩ := trod_pats h9
      injection e0 with e0; injection e1 with e1 e2; injection e2 with e2; injection e3 with e3; injection e4 with e4; injection e5 with e5; injection e6 with e6; injection e7 with e7
      injection eA with eA0 eA1; injection eA1 with eA1 eA2; injection eA2 with eA2
      injection eB with eB0 eB1; injection eB1 with eB1 eB2; injection eB2 with eB2
      injection eP with eP
      subst e0 e1 e2 e3 e4 e5 e6 e7 eA0 eA1 eA2 eB0 eB1 eB2 eP
      rcases DataW.trod_slice Tryz.underlying28 h10 with ⟨e15, -⟩ | ⟨a, len, cap, elems, rest, n', hn', e15, -, hb, hlc, hcm, hel, hea, -, -⟩
      · injection e15 with e15; subst e15
        exact ⟨.mk k f t nm.data.toList ar.data.toList m s.data.toList op A B ps [], ⟨aa, ac, ba, bc, pa, pc, none, 0⟩, by simp [evCells, Ex.E.kind, Ex.E.frm, Ex.E.til, Ex.E.nm, Ex.E.ar, Ex.E.num, Ex.E.s, Ex.E.op, Ex.E.a, Ex.E.b, Ex.E.pats, Ex.E.kids], ⟨bounds_i64 w0, bounds_i64 w5, bounds_i64 w7⟩, tA, tB, ⟨p1, p2⟩, p3, by simp [Ex.E.kids], by simp [Ex.E.kids, EKids]⟩
      · injection e15 with e15; subst e15
        have each : ∀ i, i < len → ∃ (t : E), ∃ (s : Leads), (∀ (j : Nat) (v : Value), (evCells t s)[j]? = some v → W.cell? ((a.add (i * 16)).add j) = some v) ∧ ExAt (LT W.heap.size) W t s := by
          intro i hi
          have hx := hea i hi
          rw [cells_expr, List.getElem?_eq_getElem (by omega)] at hx
          cases hc : W.cells? 0 (a.add (i * 16)) 16 with
          | none => rw [hc] at hx; cases hx
          | some cs' =>
            rw [hc] at hx
            obtain ⟨t, s', rfl, ht⟩ := ih n' (by omega) cs' _ hx
            obtain ⟨_, hlc', hcell⟩ := World.cells?_some hc
            refine ⟨t, s', fun j v hv => ?_, ht⟩
            have hj : j < 16 := by have := (List.getElem?_eq_some_iff.1 hv).1; simpa [evCells] using this
            have := hcell j (by omega)
            rw [← hv]
            simpa using this
        obtain ⟨ts, hts, hall⟩ := rows_ofG len each
        refine ⟨.mk k f t nm.data.toList ar.data.toList m s.data.toList op A B ps ts, ⟨aa, ac, ba, bc, pa, pc, some a, cap⟩, by simp [evCells, Ex.E.kind, Ex.E.frm, Ex.E.til, Ex.E.nm, Ex.E.ar, Ex.E.num, Ex.E.s, Ex.E.op, Ex.E.a, Ex.E.b, Ex.E.pats, Ex.E.kids, hts], ⟨bounds_i64 w0, bounds_i64 w5, bounds_i64 w7⟩, tA, tB, ⟨p1, p2⟩, p3, ⟨by simp only [Ex.E.kids]; omega, hcm⟩, ?_⟩
        simp only [Ex.E.kids]
        cases ts with
        | nil => simp [EKids]
        | cons t0 r =>
          obtain ⟨s0, q0, _⟩ := hall 0 (by simp)
          have q00 := q0 0 _ rfl
          have e00 : (a.add (0 * 16)).add 0 = a := by unfold Addr.add; simp
          rw [e00] at q00
          have hs : a.spot = none := spot_none q00
          obtain ⟨b, o, sp⟩ := a
          dsimp only at hs
          subst hs
          have hlt := cell_lt q00
          refine EKids.of_nodes (G := LT W.heap.size) (b := b) (by unfold LT; exact hlt) _ o (fun i hi => ?_)
          obtain ⟨s', hq, hx⟩ := hall i hi
          refine hx.node fun j v hv => ?_
          have := hq j v hv
          rwa [add_flat, add_flat] at this
set_option maxRecDepth 100000 in
/-- AN EXPRESSION ARGUMENT, OPENED. -/
theorem open_expr {b0 : Nat} {v : Value} {d : DataW H} {p : List MemPlace} (hv : Value.okWide Tryz.prog W .any b0 30 v) (h : DataW.Trod enc Tryz.prog W 0 sp held 30 v d p) : ∃ (t : E) (s : Leads), v = ev t s ∧ ExAt (LT W.heap.size) W t s := by
  obtain ⟨cs, rfl, hsz⟩ := okWide_struct Tryz.underlying30 hv
  obtain ⟨fuel, hf⟩ := h
  obtain ⟨t, s, e, ht⟩ := trod_expr fuel _ _ hf
  refine ⟨t, s, ?_, ht⟩
  unfold ev
  congr 1
  exact Array.toList_inj.1 (by simpa [Value.cells] using e)
end Go.Proofs.YtmmhpibkjdlkgaaGreat
