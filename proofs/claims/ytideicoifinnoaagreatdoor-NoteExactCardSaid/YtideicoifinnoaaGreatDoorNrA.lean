/- The reader of a type: its state in memory; take, within. The reader's take. The reader's within. The reader's begin. The reader's end. -/
import Derived.Test.YtideicoifinnoaaGreatDoorNtF
import Derived.Test.YtideicoifinnoaaGreatDoorLexA
import Derived.Test.YtideicoifinnoaaGreatDoorSeqA
import Derived.Deep.RegionLaw
import Derived.Deep.AppendLies
import Derived.Test.YtideicoifinnoaaGreatDoorTqB
import Derived.Laws.NewBlocks
namespace Go.Proofs.YtideicoifinnoaaGreatDoor
open Go Go.RowKit
open Tp (T)

/-- The i-th token of the block. -/
def TkAt (w : World) (g i : Nat) (t : Lx.Tok) : Prop :=
  w.cell? ⟨g, i * 5, none⟩ = some (.int .i64 (t.kind : Int)) ∧ w.cell? ⟨g, i * 5 + 3, none⟩ = some (.string ⟨t.s.toArray⟩)
/-- Tokens that lie below a block's number. -/
def TksAt (n0 : Nat) (w : World) (a : Option Addr) (ts : List Lx.Tok) : Prop :=
  ts = [] ∨ ∃ g, a = some ⟨g, 0, none⟩ ∧ g < n0 ∧ ∀ i (h : i < ts.length), TkAt w g i ts[i]
theorem TksAt.below {n0 : Nat} {w w' : World} {a : Option Addr} {ts : List Lx.Tok} (h : TksAt n0 w a ts) (hb : Below n0 w w') : TksAt n0 w' a ts := by
  rcases h with h | ⟨g, h1, h2, h3⟩
  · exact .inl h
  · refine .inr ⟨g, h1, h2, fun i hi => ?_⟩
    have k : ∀ o, w'.cell? ⟨g, o, none⟩ = w.cell? ⟨g, o, none⟩ := fun o => hb.cell (p := ⟨g, o, none⟩) h2
    exact ⟨by rw [k]; exact (h3 i hi).1, by rw [k]; exact (h3 i hi).2⟩
/-- What is begun. -/
structure Bg where
  k : Int
  t : T
  a : Option Addr
  cap : Nat
def bgRow (b : Bg) : List Value := [.int .i64 b.k, .int .i64 b.t.kind, .int .i64 b.t.num, .slice b.a b.t.kids.length b.cap]
def bgCells (l : List Bg) : List Value := l.flatMap bgRow
theorem bgCells_cons (p : Bg) (l : List Bg) : bgCells (p :: l) = bgRow p ++ bgCells l := by simp [bgCells]
theorem bgCells_append (l m : List Bg) : bgCells (l ++ m) = bgCells l ++ bgCells m := by simp [bgCells]
theorem bgCells_len (l : List Bg) : (bgCells l).length = l.length * 4 := by
  induction l with
  | nil => rfl
  | cons p r ih => rw [bgCells_cons, List.length_append, ih]; simp [bgRow]; omega
theorem info_bg : (Tryz.prog.info? 103).map (fun i => (i.zero, i.size, i.bytes)) = some (some (.agg #[.int .i64 0, .int .i64 0, .int .i64 0, .slice none 0 0]), 4, 48) := by kernel_rfl
/-- The rows that hold types. -/
def K24 (w : World) (b : Nat) : Prop := ∃ cur fz, w.heap[b]? = some (Obj.cells cur 24 fz)
/-- A reader: its block, its tokens, where it is, what is begun (the last first). -/
structure RdAt (n0 : Nat) (L : List Lx.Tok) (la : Option Addr) (lcap rb next : Nat) (S : List Bg) (v : Value) (w : World) : Prop where
  heap : w.heap[rb]? = some (Obj.cells #[.slice la L.length lcap, .int .i64 (next : Int), v] 65 (0, 0))
  own : w.ownsRow n0 103 4 v S.length (bgCells S.reverse)
  toks : TksAt n0 w la L
  base : n0 ≤ rb
  fit : next ≤ L.length
  small : L.length ≤ 100000
/-- What is neither the reader nor a row of what is begun stays. -/
def KeepR (rb : Nat) (w w' : World) : Prop := ∀ k, k < w.heap.size → k ≠ rb → (∀ cur fz, w.heap[k]? ≠ some (Obj.cells cur 103 fz)) → w'.heap[k]? = w.heap[k]?
theorem KeepR.refl (rb : Nat) (w : World) : KeepR rb w w := fun _ _ _ _ => rfl
theorem KeepR.trans {b : Nat} {w1 w2 w3 : World} (h : KeepR b w1 w2) (k : KeepR b w2 w3) (hs : w1.heap.size ≤ w2.heap.size) : KeepR b w1 w3 := fun q h1 h2 h3 => by
  have e := h q h1 h2 h3
  rw [k q (Nat.lt_of_lt_of_le h1 hs) h2 (fun cur fz => by rw [e]; exact h3 cur fz), e]
theorem KeepR.set {b j : Nat} {w : World} {v : Value} : KeepR b w (w.setCell ⟨b, j, none⟩ v) := fun _ _ h2 _ => Below.heap_setCell _ _ _ _ h2
theorem KeepR.of_below {b : Nat} {w w' : World} (h : Below w.heap.size w w') : KeepR b w w' := fun q h1 _ _ => h.block q h1
theorem RdAt.cells {n0 : Nat} {L : List Lx.Tok} {la : Option Addr} {lcap rb next : Nat} {S : List Bg} {v : Value} {w : World} (h : RdAt n0 L la lcap rb next S v w) :
    w.cell? ⟨rb, 0, none⟩ = some (.slice la L.length lcap) ∧ w.cell? ⟨rb, 1, none⟩ = some (.int .i64 (next : Int)) ∧ w.cell? ⟨rb, 2, none⟩ = some v :=
  ⟨by rw [Lib.cell_of_heap h.heap]; rfl, by rw [Lib.cell_of_heap h.heap]; rfl, by rw [Lib.cell_of_heap h.heap]; rfl⟩
theorem RdAt.later {n0 : Nat} {L : List Lx.Tok} {la : Option Addr} {lcap rb next : Nat} {S : List Bg} {v : Value} {w w' : World} (h : RdAt n0 L la lcap rb next S v w) (hn : n0 ≤ w.heap.size) (hb : Below w.heap.size w w') : RdAt n0 L la lcap rb next S v w' :=
  ⟨(hb.block rb (Array.getElem?_eq_some_iff.1 h.heap).1).trans h.heap, own_same h.own fun g hg => hb.block g (h.own.lt g hg).2, h.toks.below (hb.mono hn), h.base, h.fit, h.small⟩
theorem RdAt.le {n0 : Nat} {L : List Lx.Tok} {la : Option Addr} {lcap rb next : Nat} {S : List Bg} {v : Value} {w : World} (h : RdAt n0 L la lcap rb next S v w) : n0 ≤ w.heap.size :=
  Nat.le_trans h.base (Nat.le_of_lt (Array.getElem?_eq_some_iff.1 h.heap).1)
theorem RdAt.drewn {n0 : Nat} {L : List Lx.Tok} {la : Option Addr} {lcap rb next : Nat} {S : List Bg} {v : Value} {w : World} (h : RdAt n0 L la lcap rb next S v w) : RdAt n0 L la lcap rb next S v w.drew :=
  h.later h.le (Below.refl _ _).drew
/-- Is the next token this one? -/
def isTk (L : List Lx.Tok) (next : Nat) (q : Nat) (s : List UInt8) : Bool := match L[next]? with | some t => decide (t.kind = q) && decide (t.s = s) | none => false
end Go.Proofs.YtideicoifinnoaaGreatDoor
namespace Go.Proofs.YtideicoifinnoaaGreatDoor
open Go Go.RowKit
open Tp (T)

theorem isTk_none {L : List Lx.Tok} {next : Nat} (h : next = L.length) (q : Nat) (s : List UInt8) : isTk L next q s = false := by unfold isTk; rw [List.getElem?_eq_none (by omega)]
theorem isTk_some {L : List Lx.Tok} {next : Nat} {x : Lx.Tok} (h : L[next]? = some x) (q : Nat) (s : List UInt8) : isTk L next q s = (decide (x.kind = q) && decide (x.s = s)) := by unfold isTk; rw [h]
theorem elem_tok : Tryz.prog.underlying 34 = some (.slice (Tryz.prog.elem 34)) := by kernel_rfl
set_option maxRecDepth 100000 in
set_option maxHeartbeats 4000000 in
theorem take_no_end {n0 : Nat} {L : List Lx.Tok} {la : Option Addr} {lcap rb next : Nat} {S : List Bg} {v : Value} {w : World} (h : RdAt n0 L la lcap rb next S v w) (he : next = L.length) (q : Nat) (s : List UInt8) :
    Calls Tryz.prog 44 #[.pointer (some ⟨rb, 0, none⟩), .int .i64 (q : Int), .string ⟨s.toArray⟩] w fun e w' => e = .returned (.bool false) ∧ w' = w.drew := by
  obtain ⟨c0, c1, c2⟩ := h.drewn.cells
  subst he
  obtain ⟨m, hm⟩ : ∃ m, L.length = m := ⟨_, rfl⟩
  rw [hm] at c0 c1
  clear h hm
  generalize (⟨s.toArray⟩ : ByteArray) = B
  go_enter Tryz.func44, Tryz.ntmps44
  go_upto_region 1 with fail
  refine wp_region_seq [(0, false), (0, false), (0, false), (0, false), (0, false), (0, false), (0, false), (0, false), (0, false), (0, false), (0, false), (0, false), (0, false), (0, false), (0, false), (0, false), (0, false), (0, false), (0, false), (0, false), (0, false), (0, false), (0, false), (0, false), (0, false), (0, false), (0, false), (0, false), (0, false), (0, false), (0, false), (0, false), (0, false), (0, false), (0, false), (0, false), (0, false), (0, false), (0, false), (0, false)] (by kernel_rfl) (by kernel_rfl) (by kernel_rfl) (fun _ _ _ d _ h => by cases d <;> exact h) ?_
  repeat
    first
    | (first | with_reducible refine sp0 (fun K hK => ?_) | with_reducible refine sp1 (fun K hK => ?_) | with_reducible refine sp2 (fun K hK => ?_) | with_reducible refine sp3 (fun K hK => ?_) | with_reducible refine sp4 (fun K hK => ?_)
       go_simp
       first
       | (with_reducible refine hK _ _ ?_; clear hK K)
       | (with_reducible apply Exists.intro
          refine ⟨fun x hx => ?_, hK _ _ ?_⟩
          first
            | (with_reducible exact rfl)
            | (have y0 := keepc hx c0; have y1 := keepc hx c1; have y2 := keepc hx c2; go_simp; done)
            | (have y0 := keepc hx c0; have y1 := keepc hx c1; have y2 := keepc hx c2; go_simp; with_reducible exact rfl)
          clear hK K))
    | (first | with_reducible refine sk0 ?_ (fun K hK => ?_) | with_reducible refine sk1 ?_ (fun K hK => ?_) | with_reducible refine sk2 ?_ (fun K hK => ?_) | with_reducible refine sk3 ?_ (fun K hK => ?_) | with_reducible refine sk4 ?_ (fun K hK => ?_)
       rfl
       go_simp
       with_reducible refine hK _ _ ?_
       clear hK K)
  with_reducible refine seq_nil ?_
  go_wp2_with fail
  go_ret
  exact ⟨rfl, rfl⟩
set_option maxRecDepth 100000 in
set_option maxHeartbeats 4000000 in
theorem take_at {n0 : Nat} {L : List Lx.Tok} {la : Option Addr} {lcap rb next : Nat} {S : List Bg} {v : Value} {w : World} (h : RdAt n0 L la lcap rb next S v w) {x : Lx.Tok} (hx : L[next]? = some x) (q : Nat) (s : List UInt8) :
    Calls Tryz.prog 44 #[.pointer (some ⟨rb, 0, none⟩), .int .i64 (q : Int), .string ⟨s.toArray⟩] w fun e w' => e = .returned (.bool (isTk L next q s)) ∧ w' = if isTk L next q s = true then w.drew.setCell ⟨rb, 1, none⟩ (.int .i64 ((next + 1 : Nat) : Int)) else w.drew := by
  obtain ⟨c0, c1, c2⟩ := h.drewn.cells
  obtain ⟨hlt, hx'⟩ := List.getElem?_eq_some_iff.1 hx
  obtain ⟨g, rfl, hg, hN⟩ := h.drewn.toks.resolve_left (fun e => by rw [e] at hlt; simp at hlt)
  obtain ⟨d0, d3⟩ := hN next hlt
  rw [hx'] at d0 d3
  rw [isTk_some hx]
  have hsm := h.small
  obtain ⟨m, hm⟩ : ∃ m, L.length = m := ⟨_, rfl⟩
  rw [hm] at c0 hlt hsm
  have hne : ((next : Int) == (m : Int)) = false := by simp; omega
  have fr : w.drew.frozen? ⟨rb, 1, none⟩ = false := by simp [World.frozen?, h.drewn.heap]
  obtain ⟨k, hk⟩ : ∃ k, x.kind = k := ⟨_, rfl⟩
  rw [hk] at d0 ⊢
  obtain ⟨A, hA⟩ : ∃ A : ByteArray, (⟨x.s.toArray⟩ : ByteArray) = A := ⟨_, rfl⟩
  obtain ⟨B, hB⟩ : ∃ B : ByteArray, (⟨s.toArray⟩ : ByteArray) = B := ⟨_, rfl⟩
  rw [hA] at d3
  rw [hB]
  obtain ⟨r, hr⟩ : ∃ r, (A.toList == B.toList) = r := ⟨_, rfl⟩
  have hAB : decide (x.s = s) = r := by rw [← hr, ← hA, ← hB, ByteArray.toList_mk, ByteArray.toList_mk, Bool.eq_iff_iff]; simp
  rw [hAB]
  clear hA hB hAB hN hx hx' h hm hk c2
  by_cases hkq : k = q
  · subst hkq
    go_enter Tryz.func44, Tryz.ntmps44
    go_upto_region 1 with fail
    refine wp_region_seq [(0, false), (0, false), (0, false), (0, false), (0, false), (0, false), (0, false), (0, false), (0, false), (0, false), (0, false), (0, false), (0, false), (0, false), (0, false), (0, false), (0, false), (0, false), (0, false), (0, false), (0, false), (0, false), (0, false), (0, false), (0, false), (0, false), (0, false), (0, false), (0, false), (0, false), (0, false), (0, false), (0, false), (0, false), (0, false), (0, false), (0, false), (0, false), (0, false), (0, false)] (by kernel_rfl) (by kernel_rfl) (by kernel_rfl) (fun _ _ _ d _ h => by cases d <;> exact h) ?_
    repeat
      first
      | (first | with_reducible refine sp0 (fun K hK => ?_) | with_reducible refine sp1 (fun K hK => ?_) | with_reducible refine sp2 (fun K hK => ?_) | with_reducible refine sp3 (fun K hK => ?_) | with_reducible refine sp4 (fun K hK => ?_)
         go_simp
         first
         | (with_reducible refine hK _ _ ?_; clear hK K)
         | (with_reducible apply Exists.intro
            refine ⟨fun x hx => ?_, hK _ _ ?_⟩
            first
              | (with_reducible exact rfl)
              | (have y0 := keepc hx c0; have y1 := keepc hx c1; have y2 := keepc hx d0; have y3 := keepc hx d3; go_simp; done)
              | (have y0 := keepc hx c0; have y1 := keepc hx c1; have y2 := keepc hx d0; have y3 := keepc hx d3; go_simp; with_reducible exact rfl)
            clear hK K))
      | (first | with_reducible refine sk0 ?_ (fun K hK => ?_) | with_reducible refine sk1 ?_ (fun K hK => ?_) | with_reducible refine sk2 ?_ (fun K hK => ?_) | with_reducible refine sk3 ?_ (fun K hK => ?_) | with_reducible refine sk4 ?_ (fun K hK => ?_)
         rfl
         go_simp
         with_reducible refine hK _ _ ?_
         clear hK K)
    with_reducible refine seq_nil ?_
    cases r
    · go_wp2_with fail
      go_ret
      exact ⟨by simp, by simp⟩
    · go_wp2_with fail
      go_ret
      exact ⟨by simp, by simp⟩
  · have hkn : ((k : Int) != (q : Int)) = true := by simp; omega
    have hd : decide (k = q) = false := decide_eq_false hkq
    rw [hd]
    clear hd hr
    go_enter Tryz.func44, Tryz.ntmps44
    go_upto_region 1 with fail
    refine wp_region_seq [(0, false), (0, false), (0, false), (0, false), (0, false), (0, false), (0, false), (0, false), (0, false), (0, false), (0, false), (0, false), (0, false), (0, false), (0, false), (0, false), (0, false), (0, false), (0, false), (0, false), (0, false), (0, false), (0, false), (0, false), (0, false), (0, false), (0, false), (0, false), (0, false), (0, false), (0, false), (0, false), (0, false), (0, false), (0, false), (0, false), (0, false), (0, false), (0, false), (0, false)] (by kernel_rfl) (by kernel_rfl) (by kernel_rfl) (fun _ _ _ d _ h => by cases d <;> exact h) ?_
    repeat
      first
      | (first | with_reducible refine sp0 (fun K hK => ?_) | with_reducible refine sp1 (fun K hK => ?_) | with_reducible refine sp2 (fun K hK => ?_) | with_reducible refine sp3 (fun K hK => ?_) | with_reducible refine sp4 (fun K hK => ?_)
         go_simp
         first
         | (with_reducible refine hK _ _ ?_; clear hK K)
         | (with_reducible apply Exists.intro
            refine ⟨fun x hx => ?_, hK _ _ ?_⟩
            first
              | (with_reducible exact rfl)
              | (have y0 := keepc hx c0; have y1 := keepc hx c1; have y2 := keepc hx d0; have y3 := keepc hx d3; go_simp; done)
              | (have y0 := keepc hx c0; have y1 := keepc hx c1; have y2 := keepc hx d0; have y3 := keepc hx d3; go_simp; with_reducible exact rfl)
            clear hK K))
      | (first | with_reducible refine sk0 ?_ (fun K hK => ?_) | with_reducible refine sk1 ?_ (fun K hK => ?_) | with_reducible refine sk2 ?_ (fun K hK => ?_) | with_reducible refine sk3 ?_ (fun K hK => ?_) | with_reducible refine sk4 ?_ (fun K hK => ?_)
         rfl
         go_simp
         with_reducible refine hK _ _ ?_
         clear hK K)
    with_reducible refine seq_nil ?_
    go_wp2_with fail
    go_ret
    exact ⟨by simp, by simp⟩
/-- The reader goes behind the token if it is this one. -/
theorem take_any {n0 : Nat} {L : List Lx.Tok} {la : Option Addr} {lcap rb next : Nat} {S : List Bg} {v : Value} {w : World} (h : RdAt n0 L la lcap rb next S v w) (q : Nat) (s : List UInt8) :
    Calls Tryz.prog 44 #[.pointer (some ⟨rb, 0, none⟩), .int .i64 (q : Int), .string ⟨s.toArray⟩] w fun e w' => e = .returned (.bool (isTk L next q s)) ∧ RdAt n0 L la lcap rb (if isTk L next q s = true then next + 1 else next) S v w' ∧ KeepR rb w w' ∧ Below n0 w w' ∧ w'.heap.size = w.heap.size := by
  cases hx : L[next]? with
  | none =>
    have he : next = L.length := by have := h.fit; have := List.getElem?_eq_none_iff.1 hx; omega
    rw [isTk_none he]
    refine (take_no_end h he q s).mono ?_
    rintro e w' ⟨rfl, rfl⟩
    exact ⟨rfl, h.drewn, KeepR.of_below (Below.refl _ _).drew, (Below.refl _ _).drew, rfl⟩
  | some x =>
    have hlt := (List.getElem?_eq_some_iff.1 hx).1
    refine (take_at h hx q s).mono ?_
    rintro e w' ⟨rfl, hw⟩
    refine ⟨rfl, ?_⟩
    cases hb : isTk L next q s with
    | false =>
      rw [hb] at hw
      subst hw
      exact ⟨h.drewn, KeepR.of_below (Below.refl _ _).drew, (Below.refl _ _).drew, rfl⟩
    | true =>
      rw [hb] at hw
      simp only [if_true] at hw ⊢
      subst hw
      have hd := h.drewn
      have hrb := (Array.getElem?_eq_some_iff.1 hd.heap).1
      refine ⟨⟨?_, ?_, ?_, h.base, by omega, h.small⟩, (KeepR.of_below (Below.refl _ _).drew).trans KeepR.set (Nat.le_refl _), (Below.refl n0 w).drew.setCell h.base _, by simp [World.setCell]⟩
      · simp [World.setCell, Array.getElem?_modify, hd.heap]
      · refine own_same hd.own fun g hg => ?_
        refine Below.heap_setCell _ _ _ _ (fun e => ?_)
        subst e
        obtain ⟨_, ⟨h1, _⟩ | ⟨g', _, _, h1, _, h3, _⟩⟩ := id hd.own
        · rw [h1] at hg; cases hg
        · rw [h1] at hg
          injection hg with hg
          subst hg
          rw [hd.heap] at h3
          injection h3 with h3
          injection h3 with _ h3
          revert h3; decide
      · exact hd.toks.below ((Below.refl n0 _).setCell h.base _)
end Go.Proofs.YtideicoifinnoaaGreatDoor
namespace Go.Proofs.YtideicoifinnoaaGreatDoor
open Go Go.RowKit
open Tp (T)

/-- The top of what is begun, and the rest. -/
theorem bg_top {w : World} {base : Nat} {v : Value} {R : List Bg} {p : Bg} (h : w.ownsRow base 103 4 v (R.length + 1) (bgCells (p :: R).reverse)) :
    ∃ g cap, v = .slice (some ⟨g, 0, none⟩) (R.length + 1) cap ∧ base ≤ g ∧ g < w.heap.size ∧ R.length + 1 ≤ cap ∧ cap ≤ maxLen ∧ w.cell? ⟨g, R.length * 4, none⟩ = some (.int .i64 p.k) ∧ w.cell? ⟨g, R.length * 4 + 1, none⟩ = some (.int .i64 p.t.kind) ∧
      w.cell? ⟨g, R.length * 4 + 2, none⟩ = some (.int .i64 p.t.num) ∧ w.cell? ⟨g, R.length * 4 + 3, none⟩ = some (.slice p.a p.t.kids.length p.cap) ∧ w.ownsRow base 103 4 (.slice (some ⟨g, 0, none⟩) R.length cap) R.length (bgCells R.reverse) := by
  rw [List.reverse_cons, bgCells_append, bgCells_cons, show bgCells [] = [] from rfl, List.append_nil] at h
  obtain ⟨h1, h2 | ⟨g, cap, cur, h3, h4, h5, h6, h7, h8, h9⟩⟩ := id h
  · simp at h2
  · subst h3
    have hlen := bgCells_len R.reverse
    rw [List.length_reverse] at hlen
    have hc := h.cells (g := g) rfl
    have key : ∀ j u, (bgRow p)[j]? = some u → w.cell? ⟨g, R.length * 4 + j, none⟩ = some u := fun j u hu => by
      have := hc (R.length * 4 + j) u (by rw [List.getElem?_append_right (by omega), hlen, Nat.add_sub_cancel_left]; exact hu)
      rwa [add_flat, Nat.zero_add] at this
    exact ⟨g, cap, rfl, h4, (Array.getElem?_eq_some_iff.1 h5).1, h6, h7, key 0 _ rfl, key 1 _ rfl, key 2 _ rfl, key 3 _ rfl, own_take h (Nat.le_succ _) hlen⟩
/-- Is the last that was begun of this kind? -/
def inTop (S : List Bg) (q : Int) : Bool := match S with | b :: _ => decide (b.k = q) | [] => false
set_option maxRecDepth 100000 in
set_option maxHeartbeats 4000000 in
theorem within_any {n0 : Nat} {L : List Lx.Tok} {la : Option Addr} {lcap rb next : Nat} {S : List Bg} {v : Value} {w : World} (h : RdAt n0 L la lcap rb next S v w) (q : Int) :
    Calls Tryz.prog 46 #[.pointer (some ⟨rb, 0, none⟩), .int .i64 q] w fun e w' => e = .returned (.bool (inTop S q)) ∧ w' = w.drew := by
  obtain ⟨c0, c1, c2⟩ := h.drewn.cells
  cases S with
  | nil =>
    obtain ⟨va, vc, rfl⟩ := own_shapeT h.own
    clear h
    simp only [List.length_nil] at c2
    go_enter Tryz.func46, Tryz.ntmps46
    go_upto_region 1 with fail
    refine wp_region_seq [(0, false), (0, false), (0, false), (0, false), (0, false), (0, false), (0, false), (0, false), (0, false), (0, false), (0, false), (0, false), (0, false), (0, false), (0, false), (0, false), (0, false), (0, false), (0, false), (0, false), (0, false), (0, false), (0, false), (0, false)] (by kernel_rfl) (by kernel_rfl) (by kernel_rfl) (fun _ _ _ d _ h => by cases d <;> exact h) ?_
    repeat
      first
      | (first | with_reducible refine sp0 (fun K hK => ?_) | with_reducible refine sp1 (fun K hK => ?_) | with_reducible refine sp2 (fun K hK => ?_) | with_reducible refine sp3 (fun K hK => ?_) | with_reducible refine sp4 (fun K hK => ?_)
         go_simp
         first
         | (with_reducible refine hK _ _ ?_; clear hK K)
         | (with_reducible apply Exists.intro
            refine ⟨fun x hx => ?_, hK _ _ ?_⟩
            first
              | (with_reducible exact rfl)
              | (have y0 := keepc hx c0; have y1 := keepc hx c1; have y2 := keepc hx c2; go_simp; done)
              | (have y0 := keepc hx c0; have y1 := keepc hx c1; have y2 := keepc hx c2; go_simp; with_reducible exact rfl)
            clear hK K))
      | (first | with_reducible refine sk0 ?_ (fun K hK => ?_) | with_reducible refine sk1 ?_ (fun K hK => ?_) | with_reducible refine sk2 ?_ (fun K hK => ?_) | with_reducible refine sk3 ?_ (fun K hK => ?_) | with_reducible refine sk4 ?_ (fun K hK => ?_)
         rfl
         go_simp
         with_reducible refine hK _ _ ?_
         clear hK K)
    with_reducible refine seq_nil ?_
    go_wp2_with fail
    go_ret
    exact ⟨rfl, rfl⟩
  | cons b R =>
    obtain ⟨g, cap, rfl, hg1, hg2, hc1, hc2, d0, -, -, -, -⟩ := bg_top h.drewn.own
    obtain ⟨r, hr⟩ : ∃ r, R.length = r := ⟨_, rfl⟩
    rw [hr] at c2 d0 hc1
    have hrl : (r : Int) + 1 ≤ 9223372036854775807 := by unfold maxLen at hc2; omega
    have hwr : IntKind.i64.wrap (r : Int) = r := by simp [IntKind.wrap, IntKind.bits, IntKind.signed]; omega
    have hgt : (0 : Int) < (r : Int) + 1 := by omega
    have hlt : (r : Int) < (r : Int) + 1 := by omega
    obtain ⟨k, hk⟩ : ∃ k, b.k = k := ⟨_, rfl⟩
    rw [hk] at d0
    have hin : inTop (b :: R) q = (k == q) := by show decide (b.k = q) = _; rw [hk, Bool.eq_iff_iff]; simp
    rw [hin]
    clear h hr hk hin hc2
    go_enter Tryz.func46, Tryz.ntmps46
    go_upto_region 1 with fail
    refine wp_region_seq [(0, false), (0, false), (0, false), (0, false), (0, false), (0, false), (0, false), (0, false), (0, false), (0, false), (0, false), (0, false), (0, false), (0, false), (0, false), (0, false), (0, false), (0, false), (0, false), (0, false), (0, false), (0, false), (0, false), (0, false)] (by kernel_rfl) (by kernel_rfl) (by kernel_rfl) (fun _ _ _ d _ h => by cases d <;> exact h) ?_
    repeat
      first
      | (first | with_reducible refine sp0 (fun K hK => ?_) | with_reducible refine sp1 (fun K hK => ?_) | with_reducible refine sp2 (fun K hK => ?_) | with_reducible refine sp3 (fun K hK => ?_) | with_reducible refine sp4 (fun K hK => ?_)
         go_simp
         first
         | (with_reducible refine hK _ _ ?_; clear hK K)
         | (with_reducible apply Exists.intro
            refine ⟨fun x hx => ?_, hK _ _ ?_⟩
            first
              | (with_reducible exact rfl)
              | (have y0 := keepc hx c0; have y1 := keepc hx c1; have y2 := keepc hx c2; have y3 := keepc hx d0; go_simp; done)
              | (have y0 := keepc hx c0; have y1 := keepc hx c1; have y2 := keepc hx c2; have y3 := keepc hx d0; go_simp; with_reducible exact rfl)
            clear hK K))
      | (first | with_reducible refine sk0 ?_ (fun K hK => ?_) | with_reducible refine sk1 ?_ (fun K hK => ?_) | with_reducible refine sk2 ?_ (fun K hK => ?_) | with_reducible refine sk3 ?_ (fun K hK => ?_) | with_reducible refine sk4 ?_ (fun K hK => ?_)
         rfl
         go_simp
         with_reducible refine hK _ _ ?_
         clear hK K)
    with_reducible refine seq_nil ?_
    go_wp2_with fail
    go_ret
    exact ⟨rfl, rfl⟩
end Go.Proofs.YtideicoifinnoaaGreatDoor
namespace Go.Proofs.YtideicoifinnoaaGreatDoor
open Go Go.RowKit
open Tp (T)

theorem bgRow_one (p : Bg) : ∀ u ∈ bgRow p, u.oneCell' = true := by
  intro u hu
  simp only [bgRow, List.mem_cons, List.not_mem_nil, or_false] at hu
  rcases hu with rfl | rfl | rfl | rfl <;> rfl
theorem undrewR {w w1 : World} {o : Obj} {row : Option Nat} (h : (w.drew.alloc o).grownBy w1 row) : (w.alloc o).grownBy w1 row := ⟨h.os, h.tape, h.output, h.size, h.block⟩
set_option maxRecDepth 100000 in
set_option maxHeartbeats 4000000 in
theorem begin_any {n0 : Nat} {L : List Lx.Tok} {la : Option Addr} {lcap rb next : Nat} {S : List Bg} {v : Value} {w : World} (h : RdAt n0 L la lcap rb next S v w) (hS : S.length ≤ 1000000) (q : Int) (t : T) (a : Option Addr) (cap : Nat) :
    Calls Tryz.prog 45 #[.pointer (some ⟨rb, 0, none⟩), .int .i64 q, tv t a cap] w fun e w' => (∃ u, e = .returned u) ∧ (∃ v', RdAt n0 L la lcap rb next (⟨q, t, a, cap⟩ :: S) v' w') ∧ KeepR rb w w' ∧ Below n0 w w' := by
  obtain ⟨k, hk⟩ : ∃ k, t.kind = k := ⟨_, rfl⟩
  obtain ⟨n, hn⟩ : ∃ n, t.num = n := ⟨_, rfl⟩
  obtain ⟨m, hm⟩ : ∃ m, t.kids.length = m := ⟨_, rfl⟩
  unfold tv
  rw [hk, hn, hm]
  have hrow : bgRow ⟨q, t, a, cap⟩ = [.int .i64 q, .int .i64 k, .int .i64 n, .slice a m cap] := by unfold bgRow; rw [hk, hn, hm]
  obtain ⟨i0, hi, hz0, hz1, hz2⟩ := info_parts info_bg
  obtain ⟨W, hW⟩ : ∃ W, w.alloc (.cells #[.int .i64 k, .int .i64 n, .slice a m cap] 24) = W := ⟨_, rfl⟩
  have hb0 : Below w.heap.size w W := by rw [← hW]; exact (Below.refl _ _).alloc (Nat.le_refl _) _
  have hsW : W.heap.size = w.heap.size + 1 := by rw [← hW]; simp
  have hWn : W.heap[w.heap.size]? = some (.cells #[.int .i64 k, .int .i64 n, .slice a m cap] 24) := by rw [← hW]; exact World.alloc_heap_new w _
  have HR := Lib.hid (h.later h.le hb0)
  obtain ⟨c0, c1, c2⟩ := HR.out.cells
  have e0 : W.cell? ⟨w.heap.size, 0, none⟩ = some (.int .i64 k) := cell_box hWn rfl rfl
  have e1 : W.cell? ⟨w.heap.size, 1, none⟩ = some (.int .i64 n) := cell_box hWn rfl rfl
  have e2 : W.cell? ⟨w.heap.size, 2, none⟩ = some (.slice a m cap) := cell_box hWn rfl rfl
  have hrb : rb < w.heap.size := (Array.getElem?_eq_some_iff.1 h.heap).1
  have l1 : w.heap.size < W.heap.size := by omega
  have l2 : rb < W.heap.size := by omega
  have hfz : ∀ x : World, x.heap[rb]? = W.heap[rb]? → x.frozen? ⟨rb, 2, none⟩ = false := fun x e => by simp [World.frozen?, e, HR.out.heap]
  have hone := bgRow_one ⟨q, t, a, cap⟩
  rw [hrow] at hone
  have HOWN := Lib.hid HR.out.own; have HONE := Lib.hid hone
  have HB0 := Lib.hid hb0; have HSW := Lib.hid hsW; have HROW := Lib.hid hrow; have HLE := Lib.hid h.le; have HS := Lib.hid hS; have HRB := Lib.hid hrb; have HW := Lib.hid hW; have HFZ := Lib.hid hfz
  have hnq : v.ownBlock ≠ some rb := fun e => by
    obtain ⟨_, ⟨h1, _⟩ | ⟨g', _, _, h1, _, h3, _⟩⟩ := id h.own
    · rw [h1] at e; cases e
    · rw [h1] at e
      injection e with e
      have e' : g' = rb := e
      subst e'
      rw [h.heap] at h3
      injection h3 with h3
      injection h3 with _ h3
      revert h3; decide
  have HNQ := Lib.hid hnq
  have HLW := Lib.hid (show n0 ≤ W.heap.size + 1 from by have := h.le; omega)
  clear hk hn hm hrow hb0 hsW hWn h hS hrb hW c0 c1 hone hfz hnq
  go_enter Tryz.func45, Tryz.ntmps45
  go_upto_region 1 with fail
  rw [HW.out]
  go_region_law (first | (refine step_append_lies _ ?_ (.tmp 10) (.tmp 14) 63 ?_ n0 103 i0 (.agg #[.int .i64 0, .int .i64 0, .int .i64 0, .slice none 0 0]) 4 48 Tryz.underlying63 hi hz0 hz1 hz2 ?_ ?_ v S.length (bgCells S.reverse) ?_ ?_ ⟨W.heap.size, 0, none⟩ 1 1 [.int .i64 q, .int .i64 k, .int .i64 n, .slice a m cap] ?_ ?_ ?_ ?_ ?_ ?_ ?_ ?_ (W.heap.size + 1) ?_ ?_; (· rfl); (· rfl); (· rfl); (· decide); (· rfl); (· exact HOWN.out.alloc _); (· rfl); (· rfl); (· exact World.news_of_block (World.alloc_heap_new W _)); (· exact HONE.out); (· decide); (· have := HS.out; unfold maxLen; omega); (· have := HS.out; omega); (· exact Nat.le_trans HLW.out (by simp)); (· simp); intro g1 cap1 w1 hown1 hgr1 hly1 _; have hbk : w1.heap[rb]? = W.heap[rb]? := (hgr1.block rb (by simp; omega) (fun e => HNQ.out e.symm)).trans (by exact Below.heap_alloc W _ rb l2); have c2' : w1.cell? ⟨rb, 2, none⟩ = some v := (by rw [Lib.cell_of_heap (hbk.trans HR.out.heap)]; rfl); have fz1 := HFZ.out w1 hbk; have HOWN1 := Lib.hid hown1; have HGR1 := Lib.hid hgr1; have HBK := Lib.hid hbk; clear hown1 hgr1 hly1 hbk))
  all_goals
    go_wp2_with fail
    go_end0
    have hgr := undrewR HGR1.out
    have hb1 : Below n0 W w1 := ((Below.refl n0 W).alloc (by have := HLW.out; have := HSW.out; have := HLE.out; omega) _).grown hgr (by simp; have := HLW.out; omega) (fun k hk => (HOWN.out.lt k hk).1)
    have hgn : g1 ≠ rb := fun e => by
      subst e
      obtain ⟨_, ⟨h1, _⟩ | ⟨g', _, _, h1, _, h3, _⟩⟩ := id HOWN1.out
      · cases h1
      · injection h1 with h1
        injection h1 with h1
        injection h1 with h1
        subst h1
        rw [HBK.out.trans HR.out.heap] at h3
        injection h3 with h3
        injection h3 with _ h3
        revert h3; decide
    refine ⟨⟨_, rfl⟩, ⟨.slice (some ⟨g1, 0, none⟩) (S.length + 1) cap1, ?_, ?_, ?_, HR.out.base, HR.out.fit, HR.out.small⟩, ?_, ?_⟩
    · simp [World.setCell, Array.getElem?_modify, HBK.out.trans HR.out.heap]
    · refine own_same (w := w1) ?_ (fun g hg => Below.heap_setCell _ _ _ _ (fun e => hgn (by injection hg with hg; exact hg.trans e)))
      rw [List.reverse_cons, bgCells_append, bgCells_cons, show bgCells [] = [] from rfl, List.append_nil, HROW.out, List.length_cons]
      exact HOWN1.out
    · exact (HR.out.toks.below hb1).below ((Below.refl n0 w1).setCell HR.out.base _)
    · refine ((KeepR.of_below HB0.out).trans (fun k h1 h2 h3 => ?_) HB0.out.size).trans KeepR.set (Nat.le_trans HB0.out.size (by have := hgr.size; rw [World.size_alloc] at this; omega))
      refine (hgr.block k (by simp; omega) (fun e => ?_)).trans (Below.heap_alloc W _ k h1)
      obtain ⟨_, ⟨e1, _⟩ | ⟨g', _, cur, e1, _, e3, _⟩⟩ := id HOWN.out
      · rw [e1] at e; cases e
      · rw [e1] at e
        injection e with e
        subst e
        exact h3 cur (0, 0) e3
    · exact ((HB0.out.mono HLE.out).trans hb1).setCell (p := ⟨rb, 2, none⟩) HR.out.base _
end Go.Proofs.YtideicoifinnoaaGreatDoor
namespace Go.Proofs.YtideicoifinnoaaGreatDoor
open Go Go.RowKit
open Tp (T)

/-- A type stays where its rows stay. -/
theorem TyAt.moved {G G' : Nat → Prop} {W W' : World} {t : T} {a : Option Addr} {cap : Nat} (hx : TyAt G W t a cap) (h : ∀ b o, G b → W'.cell? ⟨b, o, none⟩ = W.cell? ⟨b, o, none⟩) (hn : ∀ b, G b → G' b) : TyAt G' W' t a cap :=
  ⟨hx.1, hx.2.1, hx.2.2.1, hx.2.2.2.1, KidsAt.mono h hn _ _ hx.2.2.2.2⟩
theorem KeepR.cell24 {rb : Nat} {w w' : World} (h : KeepR rb w w') {cs : Array Value} {fr : Nat × Nat} (hr : w.heap[rb]? = some (Obj.cells cs 65 fr)) {b o : Nat} (hb : K24 w b) : w'.heap[b]? = w.heap[b]? ∧ w'.cell? ⟨b, o, none⟩ = w.cell? ⟨b, o, none⟩ := by
  obtain ⟨cur, fz, hc⟩ := hb
  have e : w'.heap[b]? = w.heap[b]? := h b (Array.getElem?_eq_some_iff.1 hc).1 (fun e => by subst e; rw [hr] at hc; injection hc with hc; injection hc with _ hc; revert hc; decide) (fun c f e => by rw [hc] at e; injection e with e; injection e with _ e; revert e; decide)
  exact ⟨e, by unfold World.cell?; rw [e]⟩
theorem elem_bg : Tryz.prog.underlying 63 = some (.slice (Tryz.prog.elem 63)) := by kernel_rfl
theorem size_bg (w : World) : (sizeOf (Tryz.prog.elem 63)).run Tryz.prog w = .ok 4 w := by kernel_rfl
theorem bg_pop (g n cap k : Nat) (hk : k ≤ n) (hn : n ≤ cap) (w' : World) :
    (Instr.slice 63 (.slice (some ⟨g, 0, none⟩) n cap) none (some (.int .i64 (k : Int))) none).run Tryz.prog w' = .ok (.slice (some ⟨g, 0, none⟩) k cap) w' := by
  rw [run_slice_h w' _ _ n cap elem_bg .i64 (k : Int) (by omega) (by omega), size_bg]
  simp [Result.andThen, sliced, add_flat]
/-- Three boxes. -/
theorem three_boxes {w W : World} {A B C : Array Value} {T1 T2 T3 : TypeId} (h : ((w.alloc (.cells A T1)).alloc (.cells B T2)).alloc (.cells C T3) = W) :
    Below w.heap.size w W ∧ W.heap.size = w.heap.size + 3 ∧ W.heap[w.heap.size]? = some (.cells A T1) ∧ W.heap[w.heap.size + 1]? = some (.cells B T2) ∧ W.heap[w.heap.size + 1 + 1]? = some (.cells C T3) := by
  obtain ⟨w1, h1⟩ : ∃ w1, w.alloc (.cells A T1) = w1 := ⟨_, rfl⟩
  obtain ⟨w2, h2⟩ : ∃ w2, w1.alloc (.cells B T2) = w2 := ⟨_, rfl⟩
  rw [h1, h2] at h
  have s1 : w1.heap.size = w.heap.size + 1 := by rw [← h1]; simp
  have s2 : w2.heap.size = w.heap.size + 2 := by rw [← h2]; simp [s1]
  have s3 : W.heap.size = w.heap.size + 3 := by rw [← h]; simp [s2]
  have b1 : Below w.heap.size w w1 := by rw [← h1]; exact (Below.refl _ _).alloc (Nat.le_refl _) _
  have b2 : Below w1.heap.size w1 w2 := by rw [← h2]; exact (Below.refl _ _).alloc (Nat.le_refl _) _
  have b3 : Below w2.heap.size w2 W := by rw [← h]; exact (Below.refl _ _).alloc (Nat.le_refl _) _
  have n1 := World.alloc_heap_new w (.cells A T1)
  have n2 := World.alloc_heap_new w1 (.cells B T2)
  have n3 := World.alloc_heap_new w2 (.cells C T3)
  rw [h1] at n1
  rw [h2, s1] at n2
  rw [h, s2] at n3
  exact ⟨b1.trans ((b2.mono (by omega)).trans (b3.mono (by omega))), s3, ((b3.block _ (by omega)).trans (b2.block _ (by omega))).trans n1, (b3.block _ (by omega)).trans n2, n3⟩
set_option maxRecDepth 100000 in
set_option maxHeartbeats 4000000 in
theorem end_any {n0 : Nat} {L : List Lx.Tok} {la : Option Addr} {lcap rb next : Nat} {b : Bg} {R : List Bg} {v : Value} {w : World} (h : RdAt n0 L la lcap rb next (b :: R) v w) (q : Int) (t : T) (a : Option Addr) (cap : Nat) :
    Calls Tryz.prog 47 #[.pointer (some ⟨rb, 0, none⟩), .int .i64 q, tv t a cap] w fun e w' => ∃ g, e = .returned (tv (.mk q 0 [b.t, t]) (some ⟨g, 0, none⟩) 2) ∧ w.heap.size ≤ g ∧
      (∃ fz, w'.heap[g]? = some (Obj.cells #[.int .i64 b.t.kind, .int .i64 b.t.num, .slice b.a b.t.kids.length b.cap, .int .i64 t.kind, .int .i64 t.num, .slice a t.kids.length cap] 24 fz)) ∧ (∃ v', RdAt n0 L la lcap rb next R v' w') ∧ KeepR rb w w' ∧ Below n0 w w' := by
  obtain ⟨g, gcap, rfl, hg1, hg2, hc1, hc2, d0, d1, d2, d3, hown⟩ := bg_top h.own
  obtain ⟨c0, c1, c2⟩ := h.cells
  obtain ⟨r, hr⟩ : ∃ r, R.length = r := ⟨_, rfl⟩
  rw [hr] at c2 d0 d1 d2 d3 hc1 hown
  have hrl : (r : Int) + 1 ≤ 9223372036854775807 := by unfold maxLen at hc2; omega
  have hpop := bg_pop g (r + 1) gcap r (by omega) hc1
  have hrb : rb < w.heap.size := (Array.getElem?_eq_some_iff.1 h.heap).1
  have hfz : ∀ x : World, x.heap[rb]? = w.heap[rb]? → x.frozen? ⟨rb, 2, none⟩ = false := fun x e => by simp [World.frozen?, e, h.heap]
  have hgb : g ≠ rb := fun e => by
    obtain ⟨_, ⟨h1, _⟩ | ⟨g', _, _, h1, _, h3, _⟩⟩ := id h.own
    · cases h1
    · injection h1 with h1
      injection h1 with h1
      injection h1 with h1
      subst h1
      rw [e, h.heap] at h3
      injection h3 with h3
      injection h3 with _ h3
      revert h3; decide
  unfold tv
  have HH := Lib.hid h; have HOWN := Lib.hid hown; have HR := Lib.hid hr; have HFZ := Lib.hid hfz; have HGB := Lib.hid hgb
  have fz0 : w.frozen? ⟨rb, 2, none⟩ = false := hfz w rfl
  clear h hown hr hc2 hfz c0 c1
  go_enter Tryz.func47, Tryz.ntmps47
  go_upto_region 3 with fail
  generalize hW : ((w.alloc (.cells #[.int .i64 t.kind, .int .i64 t.num, .slice a t.kids.length cap] 24)).alloc (.cells #[.int .i64 0, .int .i64 0, .slice none 0 0] 24)).alloc (.cells #[.int .i64 b.t.kind, .int .i64 b.t.num, .slice b.a b.t.kids.length b.cap] 24) = W
  obtain ⟨hb, hs, k1, k2, k3⟩ := three_boxes hW
  have hh := HH.out.later HH.out.le hb
  obtain ⟨c0', c1', c2'⟩ := hh.cells
  rw [HR.out] at c2'
  have fz' : W.frozen? ⟨rb, 2, none⟩ = false := HFZ.out W (hb.block rb hrb)
  have a0 : W.cell? ⟨w.heap.size, 0, none⟩ = some (.int .i64 t.kind) := cell_box k1 rfl rfl
  have a1 : W.cell? ⟨w.heap.size, 1, none⟩ = some (.int .i64 t.num) := cell_box k1 rfl rfl
  have a2 : W.cell? ⟨w.heap.size, 2, none⟩ = some (.slice a t.kids.length cap) := cell_box k1 rfl rfl
  have r0 : W.cell? ⟨w.heap.size + 1, 0, none⟩ = some (.int .i64 0) := cell_box k2 rfl rfl
  have r1 : W.cell? ⟨w.heap.size + 1, 1, none⟩ = some (.int .i64 0) := cell_box k2 rfl rfl
  have r2 : W.cell? ⟨w.heap.size + 1, 2, none⟩ = some (.slice none 0 0) := cell_box k2 rfl rfl
  have b0 : W.cell? ⟨w.heap.size + 1 + 1, 0, none⟩ = some (.int .i64 b.t.kind) := cell_box k3 rfl rfl
  have b1 : W.cell? ⟨w.heap.size + 1 + 1, 1, none⟩ = some (.int .i64 b.t.num) := cell_box k3 rfl rfl
  have b2 : W.cell? ⟨w.heap.size + 1 + 1, 2, none⟩ = some (.slice b.a b.t.kids.length b.cap) := cell_box k3 rfl rfl
  have z0 : ∀ j, W.frozen? ⟨w.heap.size + 1, j, none⟩ = false := fun j => by simp [World.frozen?, k2]
  obtain ⟨N, hN⟩ : ∃ N, w.heap.size = N := ⟨_, rfl⟩
  rw [hN] at hrb hs a0 a1 a2 r0 r1 r2 b0 b1 b2 z0 ⊢
  have l0 : rb < W.heap.size := by omega
  have l1 : N < W.heap.size := by omega
  have l2 : N + 1 < W.heap.size := by omega
  have l3 : N + 1 + 1 < W.heap.size := by omega
  have m1 : rb ≠ N := by omega
  have m2 : rb ≠ N + 1 := by omega
  have m3 : rb ≠ N + 1 + 1 := by omega
  have m4 := m1.symm
  have m5 := m2.symm
  have m6 := m3.symm
  have HN := Lib.hid hN; have HB := Lib.hid hb; have HS := Lib.hid hs; have HHW := Lib.hid hh; have HK2 := Lib.hid k2; have HG2 := Lib.hid hg2; have HG1 := Lib.hid hg1
  clear hW c0' c1' d0 d1 d2 d3 c2 fz0 hN hb hs hh k1 k2 k3 hg2 hg1 hgb hc1
  go_wp2_with fail
  have hb' : Below w.heap.size w W := HB.out
  have hN : w.heap.size = N := HN.out
  obtain ⟨W1, hW1⟩ : ∃ x, W.setCell ⟨rb, 2, none⟩ (.slice (some ⟨g, 0, none⟩) r gcap) = x := ⟨_, rfl⟩
  rw [hW1]
  have q1 : W1.heap[rb]? = some (Obj.cells #[.slice la L.length lcap, .int .i64 (next : Int), .slice (some ⟨g, 0, none⟩) r gcap] 65 (0, 0)) := by
    rw [← hW1]; exact set2 HHW.out.heap
  have q2 : W1.heap[N + 1]? = some (.cells #[.int .i64 0, .int .i64 0, .slice none 0 0] 24) := by
    rw [← hW1, Below.heap_setCell _ _ _ _ m5, ← hN]; exact HK2.out
  have q3 : Below n0 W W1 := by rw [← hW1]; exact (Below.refl n0 W).setCell HH.out.base _
  have q4 : W1.heap.size = W.heap.size := by rw [← hW1]; simp [World.setCell]
  have q5 : ∀ k, k ≠ rb → W1.heap[k]? = W.heap[k]? := fun k hk => by rw [← hW1]; exact Below.heap_setCell _ _ _ _ hk
  have q6 := set2 (v' := .slice (some ⟨W.heap.size, 0, none⟩) 2 2) (set1 (v' := .int .i64 0) (set0 (v' := .int .i64 q) q2))
  obtain ⟨W2, hW2⟩ : ∃ x, ((W1.setCell ⟨N + 1, 0, none⟩ (.int .i64 q)).setCell ⟨N + 1, 1, none⟩ (.int .i64 0)).setCell ⟨N + 1, 2, none⟩ (.slice (some ⟨W.heap.size, 0, none⟩) 2 2) = x := ⟨_, rfl⟩
  rw [hW2] at q6 ⊢
  have p1 : ∀ k, k ≠ N + 1 → W2.heap[k]? = W1.heap[k]? := fun k hk => by
    rw [← hW2, Below.heap_setCell _ _ _ _ hk, Below.heap_setCell _ _ _ _ hk, Below.heap_setCell _ _ _ _ hk]
  have p2 : W2.heap.size = W.heap.size := by rw [← hW2]; simp [World.setCell, q4]
  have p3 : Below n0 W1 W2 := by
    have hn : n0 ≤ N + 1 := by have := HH.out.le; omega
    rw [← hW2]; exact (((Below.refl n0 W1).setCell (p := ⟨N + 1, 0, none⟩) hn _).setCell (p := ⟨N + 1, 1, none⟩) hn _).setCell (p := ⟨N + 1, 2, none⟩) hn _
  clear hW1 hW2 a0 a1 a2 r0 r1 r2 b0 b1 b2 z0 fz' c2' hpop
  have hnew := World.alloc_heap_new W2 (.cells #[.int .i64 b.t.kind, .int .i64 b.t.num, .slice b.a b.t.kids.length b.cap, .int .i64 t.kind, .int .i64 t.num, .slice a t.kids.length cap] 24)
  obtain ⟨W3, hW3⟩ : ∃ x, W2.alloc (.cells #[.int .i64 b.t.kind, .int .i64 b.t.num, .slice b.a b.t.kids.length b.cap, .int .i64 t.kind, .int .i64 t.num, .slice a t.kids.length cap] 24) = x := ⟨_, rfl⟩
  have o1 : ∀ k, k < W.heap.size → W3.heap[k]? = W2.heap[k]? := fun k hk => by rw [← hW3]; exact Below.heap_alloc _ _ _ (by omega)
  have o2 : Below n0 W2 W3 := by rw [← hW3]; exact (Below.refl n0 W2).alloc (by rw [p2]; have := HH.out.le; omega) _
  have o3 : W.heap.size ≤ W3.heap.size := by rw [← hW3]; simp [p2]
  rw [p2, hW3] at hnew
  rw [hW3]
  clear hW3
  have hres : W3.heap[N + 1]? = some (.cells #[.int .i64 q, .int .i64 0, .slice (some ⟨W.heap.size, 0, none⟩) 2 2] 24) := (o1 _ l2).trans q6
  refine bodyPost_ret_by (v := .agg #[.int .i64 q, .int .i64 0, .slice (some ⟨W.heap.size, 0, none⟩) 2 2]) (results_cell_row (p := 6) (ty := 24) (by kernel_rfl) _ _ (N + 1) 24 _ (0, 0) _ rfl hres Tryz.underlying24 rfl (by kernel_rfl)) rfl ?_
  have hlow : Below n0 w W3 := (((hb'.mono HH.out.le).trans q3).trans p3).trans o2
  refine ⟨W.heap.size, rfl, by omega, ⟨_, hnew⟩, ⟨.slice (some ⟨g, 0, none⟩) r gcap, ?_, ?_, HH.out.toks.below hlow, HH.out.base, HH.out.fit, HH.out.small⟩, ?_, hlow⟩
  · exact (o1 rb l0).trans ((p1 rb m2).trans q1)
  · rw [HR.out]
    refine own_same HOWN.out (fun k hk => ?_)
    have hkg : g = k := by injection hk
    subst hkg
    have hgl : g < N := by rw [← hN]; exact HG2.out
    rw [o1 g (by omega), p1 g (by omega), q5 g HGB.out]
    exact hb'.block g HG2.out
  · intro k hk hne _
    rw [o1 k (by omega), p1 k (by omega), q5 k hne]
    exact hb'.block k hk
end Go.Proofs.YtideicoifinnoaaGreatDoor
