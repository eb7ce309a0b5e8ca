/- The reader whole: what note.Read hands back. -/
import Derived.Test.YtideicoifinnoaaGreatDoorNrH
import Derived.Test.YtideicoifinnoaaGreatDoorNtS
namespace Go.Proofs.YtideicoifinnoaaGreatDoor
open Go Go.RowKit
open Tp (T)

theorem leafAt_some {L : List Lx.Tok} {n : Nat} {x : Lx.Tok} (h : L[n]? = some x) : leafAt L n = Nt.leafOf (Nt.keyT x) := by
  have e : ∀ q s, isTk L n q s = decide (Nt.keyT x = (q, s)) := fun q s => by rw [isTk_hd, ksAt_cons h]; rfl
  unfold leafAt Nt.leafOf
  simp only [e, decide_eq_true_eq]
theorem leafAt_none {L : List Lx.Tok} {n : Nat} (h : L[n]? = none) : leafAt L n = none := by
  have e : ∀ q s, isTk L n q s = false := fun q s => by unfold isTk; rw [h]
  unfold leafAt
  simp [e]
theorem rep_cons {α : Type} (x : α) : ∀ (m : Nat) (l : List α), List.replicate m x ++ x :: l = List.replicate (m + 1) x ++ l
  | 0, l => rfl
  | m + 1, l => by rw [List.replicate_succ, List.cons_append, rep_cons x m l]; rfl
/-- The atom that comes next, on pure tokens. -/
theorem atomK_at (L : List Lx.Tok) : ∀ (m n : Nat) (ps : Nt.Ps), opens L n = m →
    Nt.atomK (ksAt L n) ps = match leafAt L (n + m) with | some k => (some k, ksAt L (n + m + 1), List.replicate m (1, Nt.noT) ++ ps) | none => (none, ksAt L (n + m), List.replicate m (1, Nt.noT) ++ ps)
  | 0, n, ps, h => by
    have h0 : isTk L n 5 [40] = false := by
      cases hx : isTk L n 5 [40] with
      | false => rfl
      | true => have := opens_succ hx; omega
    cases hx : L[n]? with
    | none =>
      rw [Nat.add_zero, leafAt_none hx, ksAt_end hx]
      rfl
    | some x =>
      rw [Nat.add_zero, leafAt_some hx, ksAt_cons hx]
      rw [isTk_hd, ksAt_cons hx] at h0
      have hne : Nt.keyT x ≠ (5, [40]) := of_decide_eq_false h0
      rw [Nt.atomK, if_neg hne]
      cases Nt.leafOf (Nt.keyT x) <;> rfl
  | m + 1, n, ps, h => by
    have h1 : isTk L n 5 [40] = true := by
      cases hx : isTk L n 5 [40] with
      | true => rfl
      | false => have := opens_zero hx; omega
    have h2 := opens_succ h1
    have ih := atomK_at L m (n + 1) ((1, Nt.noT) :: ps) (by omega)
    rw [ksAt_tail h1, Nt.atomK, if_pos rfl, ih, show n + 1 + m = n + (m + 1) from by omega, rep_cons]
theorem keyB_parens (m : Nat) (S : List Bg) : (List.replicate m paren ++ S).map keyB = List.replicate m (1, Nt.noT) ++ S.map keyB := by
  rw [List.map_append, List.map_replicate]
  rfl
theorem read_at (L : List Lx.Tok) (n : Nat) (S : List Bg) : Nt.read (ksAt L n) (S.map keyB) = match leafAt L (n + opens L n) with
    | some k => Nt.cont (Nt.rest (leafT k) (ksAt L (n + opens L n + 1)) ((List.replicate (opens L n) paren ++ S).map keyB))
    | none => (none, ksAt L (n + opens L n)) := by
  rw [Nt.read_eq, atomK_at L (opens L n) n (S.map keyB) rfl, keyB_parens]
  cases leafAt L (n + opens L n) <;> rfl
theorem ksAt_len (L : List Lx.Tok) (n : Nat) : (ksAt L n).length = L.length - n := by unfold ksAt; simp
theorem leafAt_small {L : List Lx.Tok} {n k : Nat} (h : leafAt L n = some k) : k ≤ 5 ∧ n < L.length := by
  cases hx : L[n]? with
  | none => rw [leafAt_none hx] at h; cases h
  | some x =>
    refine ⟨?_, (List.getElem?_eq_some_iff.1 hx).1⟩
    unfold leafAt at h
    repeat' split at h
    all_goals first | (injection h with h; omega) | cases h
theorem leafT_at (w : World) (G : Nat → Prop) (k : Nat) (h : k ≤ 5) : TyAt G w (leafT k) none 0 :=
  ⟨by show I64 (k : Int); unfold I64; omega, by show I64 0; unfold I64; omega, by simp [leafT, Tp.T.kids], by unfold maxLen; omega, by simp [leafT, Tp.T.kids, KidsAt]⟩
theorem noT_at (w : World) (G : Nat → Prop) : TyAt G w Nt.noT none 0 :=
  ⟨by show I64 0; unfold I64; omega, by show I64 0; unfold I64; omega, by simp [Nt.noT, Tp.T.kids], by unfold maxLen; omega, by simp [Nt.noT, Tp.T.kids, KidsAt]⟩
/-- What Read says: the type, the index behind it, the error. -/
def readOut (L : List Lx.Tok) (i : Int) : T × Nat × Int :=
  if i < 0 ∨ (L.length : Int) < i then (Nt.noT, 0, 1) else
  match Nt.read (ksAt L i.toNat) [] with
  | (some t, ks) => (t, L.length - ks.length, 0)
  | (none, ks) => (Nt.noT, L.length - ks.length, 3)
def ReadPost (L : List Lx.Tok) (i : Int) (w : World) (e : Ending) (w' : World) : Prop :=
  ∃ a cap, e = .returned (.tuple #[tv (readOut L i).1 a cap, .int .i64 ((readOut L i).2.1 : Int), .int .i64 (readOut L i).2.2]) ∧ TyAt (LT w'.heap.size) w' (readOut L i).1 a cap ∧ Below w.heap.size w w'
theorem readOut_ok {L : List Lx.Tok} {i n : Nat} {t : T} (hi : i ≤ L.length) (hn : n ≤ L.length) (h : Nt.read (ksAt L i) [] = (some t, ksAt L n)) : readOut L (i : Int) = (t, n, 0) := by
  unfold readOut
  rw [if_neg (by omega), Int.toNat_natCast, h]
  simp only [ksAt_len]
  rw [show L.length - (L.length - n) = n from by omega]
theorem readOut_no {L : List Lx.Tok} {i n : Nat} (hi : i ≤ L.length) (hn : n ≤ L.length) (h : Nt.read (ksAt L i) [] = (none, ksAt L n)) : readOut L (i : Int) = (Nt.noT, n, 3) := by
  unfold readOut
  rw [if_neg (by omega), Int.toNat_natCast, h]
  simp only [ksAt_len]
  rw [show L.length - (L.length - n) = n from by omega]
theorem readOut_out {L : List Lx.Tok} {i : Int} (hi : i < 0 ∨ (L.length : Int) < i) : readOut L i = (Nt.noT, 0, 1) := by
  unfold readOut
  rw [if_pos hi]
namespace Nt
def Np (t : T) : Prop := Tp.without 0 t = true
def NpP (ps : Ps) : Prop := ∀ p ∈ ps, p.1 = 1 ∨ Np p.2
theorem np1 {t : T} (h : Np t) : Np (.mk 8 0 [t]) := by unfold Np at h ⊢; simp [Tp.without, Tp.withouts, h]
theorem np2 {k : Int} (hk : k ≠ 0) {t u : T} (h : Np t) (h' : Np u) : Np (.mk k 0 [t, u]) := by unfold Np at h h' ⊢; simp [Tp.without, Tp.withouts, h, h', hk]
theorem np_lists : ∀ (ks : List Tk) (t : T), Np t → Np (lists ks t).1
  | [], _, h => h
  | x :: r, t, h => by
    unfold lists
    split
    · exact np_lists r _ (np1 h)
    · exact h
theorem np_pairK {t : T} {ps : Ps} (h : Np t) (hp : NpP ps) : Np (pairK t ps).1 ∧ NpP (pairK t ps).2 := by
  cases ps with
  | nil => exact ⟨h, hp⟩
  | cons p r =>
    obtain ⟨k, f⟩ := p
    by_cases hk : k = 2
    · have e : pairK t ((k, f) :: r) = (.mk 7 0 [f, t], r) := by rw [pairK, if_pos hk]
      have hf : Np f := (hp _ (List.mem_cons_self ..)).resolve_left (by show ¬ k = 1; omega)
      rw [e]
      exact ⟨np2 (by decide) hf h, fun q hq => hp q (List.mem_cons_of_mem _ hq)⟩
    · have e : pairK t ((k, f) :: r) = (t, (k, f) :: r) := by rw [pairK, if_neg hk]
      rw [e]
      exact ⟨h, hp⟩
theorem np_closeF : ∀ (ps : Ps) (t : T), Np t → NpP ps → Np (closeF t ps).1 ∧ NpP (closeF t ps).2
  | [], _, h, hp => ⟨h, hp⟩
  | (k, f) :: r, t, h, hp => by
    by_cases hk : k = 3
    · have hf : Np f := (hp _ (List.mem_cons_self ..)).resolve_left (by show ¬ k = 1; omega)
      rw [closeF, if_pos hk]
      exact np_closeF r _ (np2 (by decide) hf h) (fun q hq => hp q (List.mem_cons_of_mem _ hq))
    · rw [closeF, if_neg hk]
      exact ⟨h, hp⟩
def NpO : Out → Prop
  | .more _ ps => NpP ps
  | .done t _ ps => Np t ∧ NpP ps
theorem np_rest : ∀ (f : Nat) (t : T) (ks : List Tk) (ps : Ps), Np t → NpP ps → NpO (restF f t ks ps)
  | 0, _, _, _, h, hp => ⟨h, hp⟩
  | f + 1, t, ks, ps, h, hp => by
    have h1 := np_lists ks t h
    have h2 := np_pairK h1 hp
    have h3 := np_closeF _ _ h2.1 h2.2
    simp only [restF]
    split
    · intro q hq
      rcases List.mem_cons.1 hq with rfl | hq
      · exact .inr h1
      · exact hp q hq
    · split
      · intro q hq
        rcases List.mem_cons.1 hq with rfl | hq
        · exact .inr h2.1
        · exact h2.2 q hq
      · split
        · exact np_rest f _ _ _ h3.1 (fun q hq => h3.2 q (List.mem_of_mem_tail hq))
        · exact h3
theorem np_leaf {k : Nat} (h : k ≠ 0) : Np (leafT k) := by
  unfold Np leafT
  simp [Tp.without, Tp.withouts]
  omega
end Nt
theorem leafAt_ne {L : List Lx.Tok} {n k : Nat} (h : leafAt L n = some k) : k ≠ 0 := by
  unfold leafAt at h
  repeat' split at h
  all_goals first | (injection h with h; omega) | cases h
/-- The rows that hold types, but for one box. -/
def GN (N : Nat) (w : World) (x : Nat) : Prop := K24 w x ∧ x ≠ N
theorem GN.apart {N : Nat} {w w' : World} (h : ∀ k, k ≠ N → w'.heap[k]? = w.heap[k]?) {t : T} {a : Option Addr} {cap : Nat} (hx : TyAt (GN N w) w t a cap) : TyAt (GN N w') w' t a cap :=
  hx.moved (fun b o hb => by unfold World.cell?; rw [h b hb.2]) (fun b hb => ⟨by
    obtain ⟨cur, fz, hc⟩ := hb.1
    exact ⟨cur, fz, (h b hb.2).trans hc⟩, hb.2⟩)
theorem GN.moved {rb N : Nat} {w w' : World} (hk : KeepR rb w w') {cs : Array Value} {fr : Nat × Nat} (hr : w.heap[rb]? = some (Obj.cells cs 65 fr)) {t : T} {a : Option Addr} {cap : Nat} (h : TyAt (GN N w) w t a cap) : TyAt (GN N w') w' t a cap :=
  h.moved (fun _ _ hb => (hk.cell24 hr hb.1).2) (fun b hb => ⟨by
    obtain ⟨cur, fz, hc⟩ := hb.1
    exact ⟨cur, fz, (hk.cell24 hr (o := 0) hb.1).1.trans hc⟩, hb.2⟩)
theorem GN.k24 {N : Nat} {w : World} {t : T} {a : Option Addr} {cap : Nat} (h : TyAt (GN N w) w t a cap) : TyAt (K24 w) w t a cap := h.moved (fun _ _ _ => rfl) (fun _ hb => hb.1)
theorem GN.lt {N : Nat} {w : World} {t : T} {a : Option Addr} {cap : Nat} (h : TyAt (GN N w) w t a cap) : TyAt (LT w.heap.size) w t a cap := h.moved (fun _ _ _ => rfl) (fun b hb => by
  obtain ⟨cur, fz, hc⟩ := hb.1
  exact (Array.getElem?_eq_some_iff.1 hc).1)
mutual
theorem NodeAt.avoid {G : Nat → Prop} {W : World} {N : Nat} (hN : ∀ o k, W.cell? ⟨N, o, none⟩ = some (.int .i64 k) → k = 0) : ∀ (t : T) (b o : Nat), Nt.Np t → NodeAt G W t b o → b ≠ N ∧ NodeAt (fun x => G x ∧ x ≠ N) W t b o
  | .mk k n l, b, o, hp, hx => by
    unfold Nt.Np at hp
    simp only [Tp.without, Bool.and_eq_true, Bool.not_eq_true', decide_eq_false_iff_not] at hp
    simp only [NodeAt] at hx ⊢
    obtain ⟨h1, h2, h3, h4, a, cap, h5, h6, h7, h8⟩ := hx
    exact ⟨fun e => hp.1 (hN o k (by rw [← e]; exact h3)), h1, h2, h3, h4, a, cap, h5, h6, h7, KidsAt.avoid hN l a hp.2 h8⟩
theorem KidsAt.avoid {G : Nat → Prop} {W : World} {N : Nat} (hN : ∀ o k, W.cell? ⟨N, o, none⟩ = some (.int .i64 k) → k = 0) : ∀ (l : List T) (a : Option Addr), Tp.withouts 0 l = true → KidsAt G W l a → KidsAt (fun x => G x ∧ x ≠ N) W l a
  | [], _, _, _ => by simp [KidsAt]
  | t :: r, a, hp, hx => by
    simp only [Tp.withouts, Bool.and_eq_true] at hp
    simp only [KidsAt] at hx ⊢
    obtain ⟨b, o, h1, h2, h3, h4⟩ := hx
    obtain ⟨h5, h6⟩ := NodeAt.avoid hN t b o hp.1 h3
    exact ⟨b, o, h1, ⟨h2, h5⟩, h6, KidsAt.avoid hN r _ hp.2 h4⟩
end
theorem GN.of {N : Nat} {w : World} {fr : Nat × Nat} (hN : w.heap[N]? = some (Obj.cells #[.int .i64 0, .int .i64 0, .slice none 0 0] 24 fr)) {t : T} {a : Option Addr} {cap : Nat} (hp : Nt.Np t) (h : TyAt (K24 w) w t a cap) : TyAt (GN N w) w t a cap := by
  have hc : ∀ o k, w.cell? ⟨N, o, none⟩ = some (.int .i64 k) → k = 0 := fun o k e => by
    rw [Lib.cell_of_heap hN] at e
    rcases o with _ | _ | _ | o
    · simp at e; exact e.symm
    · simp at e; exact e.symm
    · simp at e
    · simp at e
  obtain ⟨k, n, l⟩ := t
  unfold Nt.Np at hp
  simp only [Tp.without, Bool.and_eq_true] at hp
  exact ⟨h.1, h.2.1, h.2.2.1, h.2.2.2.1, KidsAt.avoid hc l a hp.2 h.2.2.2.2⟩
theorem results_cell_tmp2 {fn : Func} {p u u' : Tmp} {ty : TypeId} (h : fn.results = #[.cell p ty, .tmp u, .tmp u']) (tmps : Array Value) (P : Program) (w : World) :
    (results fn tmps).run P w =
      ((asAddr (tmps.getD p undef)).run P w).andThen fun a w₁ => ((loadVar ty a).run P w₁).andThen fun v w₂ => .ok (.tuple #[v, tmps.getD u undef, tmps.getD u' undef]) w₂ := by
  simp only [results, h]
  simp [Sem.run_bind, Result.andThen]
/-- What the loop of Read keeps. -/
structure RdKeep (L : List Lx.Tok) (la : Option Addr) (lcap N : Nat) (w : World) (t : T) (a : Option Addr) (cap next : Nat) (S : List Bg) (v : Value) (wr : World) : Prop where
  rd : RdAt N L la lcap (N + 1) next S v wr
  low : Below N w wr
  box : wr.heap[N]? = some (Obj.cells #[.int .i64 t.kind, .int .i64 t.num, .slice a t.kids.length cap] 24 (0, 0))
  st : ∀ b ∈ S, b.k = 1 ∨ TyAt (GN N wr) wr b.t b.a b.cap
  np : Nt.NpP (S.map keyB)
def RdLoop (L : List Lx.Tok) (la : Option Addr) (lcap i N : Nat) (w : World) (gk : Nat) (m : Value) (wr : World) : Prop := ∃ t a cap next S v, RdKeep L la lcap N w t a cap next S v wr ∧
  ((m = .bool true ∧ t = Nt.noT ∧ a = none ∧ cap = 0 ∧ Nt.read (ksAt L next) (S.map keyB) = Nt.read (ksAt L i) [] ∧ S.length ≤ next ∧ gk = L.length - next + 1) ∨
   (m = .bool false ∧ TyAt (GN N wr) wr t a cap ∧ Nt.cont (.done t (ksAt L next) (S.map keyB)) = Nt.read (ksAt L i) [] ∧ gk = 0))
/-- The result's box is written. -/
theorem RdKeep.put {L : List Lx.Tok} {la : Option Addr} {lcap N : Nat} {w : World} {t t2 : T} {a a2 : Option Addr} {cap cap2 next : Nat} {S : List Bg} {v : Value} {wr : World} (h : RdKeep L la lcap N w t a cap next S v wr) :
    RdKeep L la lcap N w t2 a2 cap2 next S v (((wr.setCell ⟨N, 0, none⟩ (.int .i64 t2.kind)).setCell ⟨N, 1, none⟩ (.int .i64 t2.num)).setCell ⟨N, 2, none⟩ (.slice a2 t2.kids.length cap2)) ∧
    (∀ {t3 : T} {a3 : Option Addr} {cap3 : Nat}, TyAt (GN N wr) wr t3 a3 cap3 → TyAt (GN N (((wr.setCell ⟨N, 0, none⟩ (.int .i64 t2.kind)).setCell ⟨N, 1, none⟩ (.int .i64 t2.num)).setCell ⟨N, 2, none⟩ (.slice a2 t2.kids.length cap2))) (((wr.setCell ⟨N, 0, none⟩ (.int .i64 t2.kind)).setCell ⟨N, 1, none⟩ (.int .i64 t2.num)).setCell ⟨N, 2, none⟩ (.slice a2 t2.kids.length cap2)) t3 a3 cap3) := by
  have hB := boxed h.box (.int .i64 t2.kind) (.int .i64 t2.num) (.slice a2 t2.kids.length cap2)
  have hR := h.rd.boxes h.box (Nat.le_refl N) (.int .i64 t2.kind) (.int .i64 t2.num) (.slice a2 t2.kids.length cap2)
  have hl : Below N wr (((wr.setCell ⟨N, 0, none⟩ (.int .i64 t2.kind)).setCell ⟨N, 1, none⟩ (.int .i64 t2.num)).setCell ⟨N, 2, none⟩ (.slice a2 t2.kids.length cap2)) := (((Below.refl N wr).setCell (p := ⟨N, 0, none⟩) (Nat.le_refl N) _).setCell (p := ⟨N, 1, none⟩) (Nat.le_refl N) _).setCell (p := ⟨N, 2, none⟩) (Nat.le_refl N) _
  generalize ((wr.setCell ⟨N, 0, none⟩ (.int .i64 t2.kind)).setCell ⟨N, 1, none⟩ (.int .i64 t2.num)).setCell ⟨N, 2, none⟩ (.slice a2 t2.kids.length cap2) = w3 at hB hR hl ⊢
  exact ⟨⟨hR, h.low.trans hl, hB.cells, fun b hb => (h.st b hb).imp id (GN.apart hB.rest), h.np⟩, fun hx => GN.apart hB.rest hx⟩
/-- A step that moves the reader. -/
theorem RdKeep.step {L : List Lx.Tok} {la : Option Addr} {lcap N : Nat} {w : World} {t : T} {a : Option Addr} {cap next next2 : Nat} {S S2 : List Bg} {v v2 : Value} {wr w2 : World} (h : RdKeep L la lcap N w t a cap next S v wr)
    (hrd : RdAt N L la lcap (N + 1) next2 S2 v2 w2) (hk : KeepR (N + 1) wr w2) (hl : Below N wr w2) (hst : ∀ b ∈ S2, b.k = 1 ∨ TyAt (GN N w2) w2 b.t b.a b.cap) (hnp : Nt.NpP (S2.map keyB)) : RdKeep L la lcap N w t a cap next2 S2 v2 w2 :=
  ⟨hrd, h.low.trans hl, (hk.cell24 h.rd.heap (o := 0) ⟨_, _, h.box⟩).1.trans h.box, hst, hnp⟩
theorem RdKeep.later {L : List Lx.Tok} {la : Option Addr} {lcap N : Nat} {w : World} {t : T} {a : Option Addr} {cap next : Nat} {S : List Bg} {v : Value} {wr w2 : World} (h : RdKeep L la lcap N w t a cap next S v wr) (hb : Below wr.heap.size wr w2) : RdKeep L la lcap N w t a cap next S v w2 :=
  h.step (h.rd.later h.rd.le hb) (KeepR.of_below hb) (hb.mono h.rd.le) (fun b hb' => (h.st b hb').imp id (GN.moved (KeepR.of_below hb) h.rd.heap)) h.np
theorem parens_st {m : Nat} {S : List Bg} {P : Bg → Prop} (h : ∀ b ∈ S, b.k = 1 ∨ P b) : ∀ b ∈ List.replicate m paren ++ S, b.k = 1 ∨ P b := fun b hb => by
  rcases List.mem_append.1 hb with hb | hb
  · rw [List.eq_of_mem_replicate hb]; exact .inl rfl
  · exact h b hb
theorem parens_np {m : Nat} {S : List Bg} (h : Nt.NpP (S.map keyB)) : Nt.NpP ((List.replicate m paren ++ S).map keyB) := fun p hp => by
  rw [keyB_parens] at hp
  rcases List.mem_append.1 hp with hp | hp
  · rw [List.eq_of_mem_replicate hp]; exact .inl rfl
  · exact h p hp
theorem rd_start {L : List Lx.Tok} {la : Option Addr} {lcap i : Nat} {w : World} (h : TksAt w.heap.size w la L) (hL : L.length ≤ 100000) (hi : i ≤ L.length) :
    RdKeep L la lcap w.heap.size w Nt.noT none 0 i [] (.slice none 0 0) ((w.alloc (.cells #[.int .i64 0, .int .i64 0, .slice none 0 0] 24)).alloc (.cells #[.slice la L.length lcap, .int .i64 (i : Int), .slice none 0 0] 65)) := by
  obtain ⟨w1, h1⟩ : ∃ w1, w.alloc (.cells #[.int .i64 0, .int .i64 0, .slice none 0 0] 24) = w1 := ⟨_, rfl⟩
  obtain ⟨w2, h2⟩ : ∃ w2, w1.alloc (.cells #[.slice la L.length lcap, .int .i64 (i : Int), .slice none 0 0] 65) = w2 := ⟨_, rfl⟩
  rw [h1, h2]
  have s1 : w1.heap.size = w.heap.size + 1 := by rw [← h1]; simp
  have b1 : Below w.heap.size w w1 := by rw [← h1]; exact (Below.refl _ _).alloc (Nat.le_refl _) _
  have b2 : Below w1.heap.size w1 w2 := by rw [← h2]; exact (Below.refl _ _).alloc (Nat.le_refl _) _
  have n1 := World.alloc_heap_new w (.cells #[.int .i64 0, .int .i64 0, .slice none 0 0] 24)
  have n2 := World.alloc_heap_new w1 (.cells #[.slice la L.length lcap, .int .i64 (i : Int), .slice none 0 0] 65)
  rw [h1] at n1
  rw [h2, s1] at n2
  have hb := b1.trans (b2.mono (by omega))
  refine ⟨⟨n2, ?_, h.below hb, by omega, hi, hL⟩, hb, (b2.block _ (by omega)).trans n1, (fun b hb => by cases hb), (fun p hp => by cases hp)⟩
  exact World.ownsRow_nil _ _ _ _
end Go.Proofs.YtideicoifinnoaaGreatDoor
