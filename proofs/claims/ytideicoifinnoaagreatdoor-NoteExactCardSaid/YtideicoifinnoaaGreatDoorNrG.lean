/- The reader's rest: what its loop keeps. -/
import Derived.Test.YtideicoifinnoaaGreatDoorNrF
import Derived.Test.YtideicoifinnoaaGreatDoorNtR
namespace Go.Proofs.YtideicoifinnoaaGreatDoor
open Go Go.RowKit
open Tp (T)

def ksAt (L : List Lx.Tok) (n : Nat) : List Nt.Tk := (L.drop n).map Nt.keyT
theorem ksAt_end {L : List Lx.Tok} {n : Nat} (h : L[n]? = none) : ksAt L n = [] := by
  unfold ksAt
  rw [List.drop_eq_nil_of_le (List.getElem?_eq_none_iff.1 h)]
  rfl
theorem ksAt_cons {L : List Lx.Tok} {n : Nat} {x : Lx.Tok} (h : L[n]? = some x) : ksAt L n = Nt.keyT x :: ksAt L (n + 1) := by
  obtain ⟨hlt, hx⟩ := List.getElem?_eq_some_iff.1 h
  unfold ksAt
  rw [List.drop_eq_getElem_cons hlt, hx]
  rfl
theorem isTk_hd (L : List Lx.Tok) (n q : Nat) (s : List UInt8) : isTk L n q s = Nt.hd (ksAt L n) q s := by
  cases h : L[n]? with
  | none => rw [ksAt_end h]; unfold isTk; rw [h]; rfl
  | some x =>
    rw [ksAt_cons h, isTk_some h]
    show _ = decide (Nt.keyT x = (q, s))
    unfold Nt.keyT
    rw [Bool.eq_iff_iff]
    simp
theorem ksAt_tail {L : List Lx.Tok} {n q : Nat} {s : List UInt8} (h : isTk L n q s = true) : ksAt L n = (q, s) :: ksAt L (n + 1) := by
  rw [isTk_hd] at h
  have h1 := Nt.hd_tail h
  cases hx : L[n]? with
  | none => rw [ksAt_end hx] at h1; cases h1
  | some x =>
    rw [ksAt_cons hx] at h1 ⊢
    rw [h1]
    rfl
def keyB (b : Bg) : Int × T := (b.k, b.t)
theorem inTop_key (S : List Bg) (q : Int) : inTop S q = Nt.topIs q (S.map keyB) := by cases S <;> rfl
/-- The rows that hold types, but for two boxes. -/
def GR (N : Nat) (w : World) (x : Nat) : Prop := K24 w x ∧ x ≠ N ∧ x ≠ N + 1
/-- What the loop of rest keeps. -/
structure RsRel (n0 : Nat) (L : List Lx.Tok) (la : Option Addr) (lcap rb N : Nat) (w : World) (t : T) (a : Option Addr) (cap next : Nat) (S : List Bg) (v : Value) (wr : World) : Prop where
  rd : RdAt n0 L la lcap rb next S v wr
  box : wr.heap[N]? = some (Obj.cells #[.int .i64 t.kind, .int .i64 t.num, .slice a t.kids.length cap] 24 (0, 0))
  res : wr.heap[N + 1]? = some (Obj.cells #[.int .i64 0, .int .i64 0, .slice none 0 0] 24 (0, 0))
  ty : TyAt (GR N wr) wr t a cap
  st : ∀ b ∈ S, b.k = 1 ∨ TyAt (GR N wr) wr b.t b.a b.cap
  keep : KeepR rb w wr
  low : Below n0 w wr
  old : w.heap.size = N
/-- A step that only moves the reader. -/
theorem GR.moved {rb N : Nat} {w w' : World} (hk : KeepR rb w w') {cs : Array Value} {fr : Nat × Nat} (hr : w.heap[rb]? = some (Obj.cells cs 65 fr)) {t : T} {a : Option Addr} {cap : Nat} (h : TyAt (GR N w) w t a cap) : TyAt (GR N w') w' t a cap :=
  h.moved (fun _ _ hb => (hk.cell24 hr hb.1).2) (fun b hb => ⟨by
    obtain ⟨cur, fz, hc⟩ := hb.1
    exact ⟨cur, fz, (hk.cell24 hr (o := 0) hb.1).1.trans hc⟩, hb.2⟩)
theorem RsRel.step {n0 : Nat} {L : List Lx.Tok} {la : Option Addr} {lcap rb N : Nat} {w : World} {t : T} {a : Option Addr} {cap next next2 : Nat} {S S2 : List Bg} {v v2 : Value} {wr w2 : World} (h : RsRel n0 L la lcap rb N w t a cap next S v wr)
    (hrd : RdAt n0 L la lcap rb next2 S2 v2 w2) (hsub : ∀ b ∈ S2, b ∈ S) (hk : KeepR rb wr w2) (hl : Below n0 wr w2) : RsRel n0 L la lcap rb N w t a cap next2 S2 v2 w2 := by
  have hs : w.heap.size ≤ wr.heap.size := by rw [h.old]; exact Nat.le_of_lt (Array.getElem?_eq_some_iff.1 h.box).1
  exact ⟨hrd, (hk.cell24 h.rd.heap (o := 0) ⟨_, _, h.box⟩).1.trans h.box, (hk.cell24 h.rd.heap (o := 0) ⟨_, _, h.res⟩).1.trans h.res, GR.moved hk h.rd.heap h.ty, fun b hb => (h.st b (hsub b hb)).imp id (GR.moved hk h.rd.heap), h.keep.trans hk hs, h.low.trans hl, h.old⟩
/-- A draw. -/
theorem RsRel.drewn {n0 : Nat} {L : List Lx.Tok} {la : Option Addr} {lcap rb N : Nat} {w : World} {t : T} {a : Option Addr} {cap next : Nat} {S : List Bg} {v : Value} {wr : World} (h : RsRel n0 L la lcap rb N w t a cap next S v wr) : RsRel n0 L la lcap rb N w t a cap next S v wr.drew :=
  h.step h.rd.drewn (fun _ hb => hb) (KeepR.of_below (Below.refl _ _).drew) (Below.refl _ _).drew
end Go.Proofs.YtideicoifinnoaaGreatDoor
