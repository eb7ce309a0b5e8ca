/- The reader's rest: its type is replaced. -/
import Derived.Test.YtideicoifinnoaaGreatDoorNrG
import Derived.Test.YtideicoifinnoaaGreatDoorTqB
namespace Go.Proofs.YtideicoifinnoaaGreatDoor
open Go Go.RowKit
open Tp (T)

/-- Other blocks than the first box stay. -/
theorem GR.apart {N : Nat} {w w' : World} (h : ∀ k, K24 w k → k ≠ N → k ≠ N + 1 → w'.heap[k]? = w.heap[k]?) {t : T} {a : Option Addr} {cap : Nat} (hx : TyAt (GR N w) w t a cap) : TyAt (GR N w') w' t a cap :=
  hx.moved (fun b o hb => by unfold World.cell?; rw [h b hb.1 hb.2.1 hb.2.2]) (fun b hb => ⟨by
    obtain ⟨cur, fz, hc⟩ := hb.1
    exact ⟨cur, fz, (h b hb.1 hb.2.1 hb.2.2).trans hc⟩, hb.2⟩)
/-- A type of one kid whose row is known. -/
theorem ty_row1 {N M : Nat} {w : World} {t : T} {a : Option Addr} {cap : Nat} {k : Int} (hk : I64 k) (hM : w.heap[M]? = some (Obj.cells #[.int .i64 t.kind, .int .i64 t.num, .slice a t.kids.length cap] 24 (0, 0))) (h1 : M ≠ N) (h2 : M ≠ N + 1) (ht : TyAt (GR N w) w t a cap) :
    TyAt (GR N w) w (.mk k 0 [t]) (some ⟨M, 0, none⟩) 1 := by
  refine ⟨hk, by show I64 0; unfold I64; omega, by simp [Tp.T.kids], by unfold maxLen; omega, ?_⟩
  refine KidsAt.of_nodes (G := GR N w) ⟨⟨_, _, hM⟩, h1, h2⟩ [t] 0 (fun i hi => ?_)
  have hi0 : i = 0 := by simp at hi; omega
  subst hi0
  exact NodeAt.mk' ht (cell_box hM rfl rfl) (cell_box hM rfl rfl) (cell_box hM rfl rfl)
/-- A type of two kids whose row is known. -/
theorem ty_row2 {N M : Nat} {w : World} {t u : T} {a b : Option Addr} {cap cap' : Nat} {k : Int} {fz : Nat × Nat} (hk : I64 k) (hM : w.heap[M]? = some (Obj.cells #[.int .i64 t.kind, .int .i64 t.num, .slice a t.kids.length cap, .int .i64 u.kind, .int .i64 u.num, .slice b u.kids.length cap'] 24 fz)) (h1 : M ≠ N) (h2 : M ≠ N + 1) (ht : TyAt (GR N w) w t a cap) (hu : TyAt (GR N w) w u b cap') :
    TyAt (GR N w) w (.mk k 0 [t, u]) (some ⟨M, 0, none⟩) 2 := by
  refine ⟨hk, by show I64 0; unfold I64; omega, by simp [Tp.T.kids], by unfold maxLen; omega, ?_⟩
  have hc : ∀ j, w.cell? ⟨M, j, none⟩ = (#[.int .i64 t.kind, .int .i64 t.num, .slice a t.kids.length cap, .int .i64 u.kind, .int .i64 u.num, .slice b u.kids.length cap'] : Array Value)[j]? := fun j => by simp [World.cell?, hM]
  refine KidsAt.of_nodes (G := GR N w) ⟨⟨_, _, hM⟩, h1, h2⟩ [t, u] 0 (fun i hi => ?_)
  have hi2 : i = 0 ∨ i = 1 := by simp at hi; omega
  rcases hi2 with rfl | rfl
  · exact NodeAt.mk' ht (by rw [hc]; rfl) (by rw [hc]; rfl) (by rw [hc]; rfl)
  · exact NodeAt.mk' hu (by rw [hc]; rfl) (by rw [hc]; rfl) (by rw [hc]; rfl)
/-- Its box is written. -/
theorem RsRel.put {n0 : Nat} {L : List Lx.Tok} {la : Option Addr} {lcap rb N : Nat} {w : World} {t t2 : T} {a a2 : Option Addr} {cap cap2 next : Nat} {S : List Bg} {v : Value} {w2 : World} (h : RsRel n0 L la lcap rb N w t a cap next S v w2) (hn : n0 ≤ N) (hty : TyAt (GR N w2) w2 t2 a2 cap2) :
    RsRel n0 L la lcap rb N w t2 a2 cap2 next S v (((w2.setCell ⟨N, 0, none⟩ (.int .i64 t2.kind)).setCell ⟨N, 1, none⟩ (.int .i64 t2.num)).setCell ⟨N, 2, none⟩ (.slice a2 t2.kids.length cap2)) := by
  have hB := boxed h.box (.int .i64 t2.kind) (.int .i64 t2.num) (.slice a2 t2.kids.length cap2)
  have hR := h.rd.boxes h.box hn (.int .i64 t2.kind) (.int .i64 t2.num) (.slice a2 t2.kids.length cap2)
  have hl : Below n0 w2 (((w2.setCell ⟨N, 0, none⟩ (.int .i64 t2.kind)).setCell ⟨N, 1, none⟩ (.int .i64 t2.num)).setCell ⟨N, 2, none⟩ (.slice a2 t2.kids.length cap2)) := (((Below.refl n0 w2).setCell (p := ⟨N, 0, none⟩) hn _).setCell (p := ⟨N, 1, none⟩) hn _).setCell (p := ⟨N, 2, none⟩) hn _
  generalize ((w2.setCell ⟨N, 0, none⟩ (.int .i64 t2.kind)).setCell ⟨N, 1, none⟩ (.int .i64 t2.num)).setCell ⟨N, 2, none⟩ (.slice a2 t2.kids.length cap2) = w3 at hB hR hl ⊢
  have hap : ∀ k, K24 w2 k → k ≠ N → k ≠ N + 1 → w3.heap[k]? = w2.heap[k]? := fun k _ h1 _ => hB.rest k h1
  refine ⟨hR, hB.cells, (hB.rest (N + 1) (by omega)).trans h.res, GR.apart hap hty, fun b hb => (h.st b hb).imp id (GR.apart hap), fun k h1 h2 h3 => ?_, h.low.trans hl, h.old⟩
  rw [hB.rest k (by rw [← h.old]; omega)]
  exact h.keep k h1 h2 h3
/-- A new row. -/
theorem RsRel.row {n0 : Nat} {L : List Lx.Tok} {la : Option Addr} {lcap rb N : Nat} {w : World} {t : T} {a : Option Addr} {cap next : Nat} {S : List Bg} {v : Value} {w2 : World} (h : RsRel n0 L la lcap rb N w t a cap next S v w2) (o : Obj) : RsRel n0 L la lcap rb N w t a cap next S v (w2.alloc o) :=
  h.step (h.rd.later h.rd.le ((Below.refl _ _).alloc (Nat.le_refl _) _)) (fun _ hb => hb) (KeepR.of_below ((Below.refl _ _).alloc (Nat.le_refl _) _)) ((Below.refl _ _).alloc h.rd.le _)
end Go.Proofs.YtideicoifinnoaaGreatDoor
