/- The page's reader in memory: its block, what a call of it keeps; may. The page's reader: types that it builds, in blocks of its calls' own. The page's reader: post. The page's reader: atom. The page's reader: Type, and all three. The page's Read. -/
import Derived.Test.YtideicoifinnoaaGreatDoorNtW
import Derived.Test.YtideicoifinnoaaGreatDoorNlA
import Derived.Test.YtideicoifinnoaaGreatDoorSeqA
import Derived.Deep.DeepCutAuto
import Derived.Deep.LoopGhost
import Derived.Deep.RegionLaw
import Derived.Test.YtideicoifinnoaaGreatDoorNrK
namespace Go.Proofs.YtideicoifinnoaaGreatDoor
open Go Go.RowKit
open Tp (T)

/-- The page's reader: where it is, where it went wrong. -/
structure PgAt (w : World) (rb : Nat) (L : List Lx.Tok) (la : Option Addr) (lcap n : Nat) (bad : Int) : Prop where
  heap : w.heap[rb]? = some (.cells #[.slice la L.length lcap, .int .i64 (n : Int), .int .i64 bad] 71 (0, 0))
  toks : TksAt rb w la L
  fit : n ≤ L.length
  small : L.length ≤ 100000
/-- What a call of it keeps. -/
structure PgKeep (rb : Nat) (w w' : World) : Prop where
  low : Below rb w w'
  rest : ∀ k, rb < k → k < w.heap.size → w'.heap[k]? = w.heap[k]?
theorem PgKeep.trans {rb : Nat} {a b c : World} (h : PgKeep rb a b) (k : PgKeep rb b c) : PgKeep rb a c :=
  ⟨h.low.trans k.low, fun q h1 h2 => (k.rest q h1 (Nat.lt_of_lt_of_le h2 h.low.size)).trans (h.rest q h1 h2)⟩
theorem PgKeep.of_below {rb : Nat} {w w' : World} (h : Below w.heap.size w w') (hr : rb ≤ w.heap.size) : PgKeep rb w w' := ⟨h.mono hr, fun k _ h2 => h.block k h2⟩
theorem PgKeep.set {rb j : Nat} {w : World} {v : Value} : PgKeep rb w (w.setCell ⟨rb, j, none⟩ v) :=
  ⟨(Below.refl rb w).setCell (p := ⟨rb, j, none⟩) (Nat.le_refl _) _, fun k h1 _ => Below.heap_setCell _ _ _ _ (by show k ≠ rb; omega)⟩
theorem PgAt.lt {w : World} {rb : Nat} {L : List Lx.Tok} {la : Option Addr} {lcap n : Nat} {bad : Int} (h : PgAt w rb L la lcap n bad) : rb < w.heap.size := (Array.getElem?_eq_some_iff.1 h.heap).1
theorem PgAt.later {w w' : World} {rb : Nat} {L : List Lx.Tok} {la : Option Addr} {lcap n : Nat} {bad : Int} (h : PgAt w rb L la lcap n bad) (hb : Below w.heap.size w w') : PgAt w' rb L la lcap n bad :=
  ⟨(hb.block rb h.lt).trans h.heap, h.toks.below (hb.mono (Nat.le_of_lt h.lt)), h.fit, h.small⟩
theorem PgAt.cells {w : World} {rb : Nat} {L : List Lx.Tok} {la : Option Addr} {lcap n : Nat} {bad : Int} (h : PgAt w rb L la lcap n bad) :
    w.cell? ⟨rb, 0, none⟩ = some (.slice la L.length lcap) ∧ w.cell? ⟨rb, 1, none⟩ = some (.int .i64 (n : Int)) ∧ w.cell? ⟨rb, 2, none⟩ = some (.int .i64 bad) :=
  ⟨by rw [Lib.cell_of_heap h.heap]; rfl, by rw [Lib.cell_of_heap h.heap]; rfl, by rw [Lib.cell_of_heap h.heap]; rfl⟩
theorem PgAt.moved {w : World} {rb : Nat} {L : List Lx.Tok} {la : Option Addr} {lcap n n' : Nat} {bad : Int} (h : PgAt w rb L la lcap n bad) (hn : n' ≤ L.length) : PgAt (w.setCell ⟨rb, 1, none⟩ (.int .i64 (n' : Int))) rb L la lcap n' bad := by
  refine ⟨?_, h.toks.below ((Below.refl rb w).setCell (p := ⟨rb, 1, none⟩) (Nat.le_refl _) _), hn, h.small⟩
  simp [World.setCell, Array.getElem?_modify, h.heap]
theorem PgAt.wrong {w : World} {rb : Nat} {L : List Lx.Tok} {la : Option Addr} {lcap n : Nat} {bad b : Int} (h : PgAt w rb L la lcap n bad) : PgAt (w.setCell ⟨rb, 2, none⟩ (.int .i64 b)) rb L la lcap n b := by
  refine ⟨?_, h.toks.below ((Below.refl rb w).setCell (p := ⟨rb, 2, none⟩) (Nat.le_refl _) _), h.fit, h.small⟩
  simp [World.setCell, Array.getElem?_modify, h.heap]
mutual
theorem NodeAt.apartR {G : Nat → Prop} {W : World} {rb : Nat} {s : Value} {x y : Int} {fz : Nat × Nat} {ty : TypeId} (hs : ∀ k, s ≠ .int .i64 k) (hr : W.heap[rb]? = some (.cells #[s, .int .i64 x, .int .i64 y] ty fz)) : ∀ (t : T) (b o : Nat), NodeAt G W t b o → b ≠ rb ∧ NodeAt (fun x => G x ∧ x ≠ rb) W t b o
  | .mk k n l, b, o, hx => by
    simp only [NodeAt] at hx ⊢
    obtain ⟨h1, h2, h3, h4, a, cap, h5, h6, h7, h8⟩ := hx
    refine ⟨fun e => ?_, h1, h2, h3, h4, a, cap, h5, h6, h7, KidsAt.apartR hs hr l a h8⟩
    subst e
    rw [Lib.cell_of_heap hr] at h3 h5
    rcases o with _ | _ | _ | o
    · simp at h3; exact hs _ h3
    · simp at h5
    · simp at h5
    · simp at h3
theorem KidsAt.apartR {G : Nat → Prop} {W : World} {rb : Nat} {s : Value} {x y : Int} {fz : Nat × Nat} {ty : TypeId} (hs : ∀ k, s ≠ .int .i64 k) (hr : W.heap[rb]? = some (.cells #[s, .int .i64 x, .int .i64 y] ty fz)) : ∀ (l : List T) (a : Option Addr), KidsAt G W l a → KidsAt (fun x => G x ∧ x ≠ rb) W l a
  | [], _, _ => by simp [KidsAt]
  | t :: r, a, hx => by
    simp only [KidsAt] at hx ⊢
    obtain ⟨b, o, h1, h2, h3, h4⟩ := hx
    obtain ⟨h5, h6⟩ := NodeAt.apartR hs hr t b o h3
    exact ⟨b, o, h1, ⟨h2, h5⟩, h6, KidsAt.apartR hs hr r _ h4⟩
end
/-- A type stays where the reader moves. -/
theorem PgKeep.ty {w w' : World} {rb : Nat} {L : List Lx.Tok} {la : Option Addr} {lcap n : Nat} {bad : Int} (h : PgAt w rb L la lcap n bad) (hk : PgKeep rb w w') {t : T} {a : Option Addr} {cap : Nat} (hty : TyAt (LT w.heap.size) w t a cap) : TyAt (LT w'.heap.size) w' t a cap := by
  have h2 : TyAt (fun x => LT w.heap.size x ∧ x ≠ rb) w t a cap := ⟨hty.1, hty.2.1, hty.2.2.1, hty.2.2.2.1, KidsAt.apartR (fun k e => by cases e) h.heap _ a hty.2.2.2.2⟩
  refine h2.moved (fun b o hb => ?_) (fun b hb => Nat.lt_of_lt_of_le hb.1 hk.low.size)
  unfold World.cell?
  rcases Nat.lt_or_ge b rb with h3 | h3
  · rw [hk.low.block b h3]
  · rw [hk.rest b (by have := hb.2; omega) hb.1]
set_option maxRecDepth 100000 in
set_option maxHeartbeats 4000000 in
theorem may_bad {w : World} {rb : Nat} {L : List Lx.Tok} {la : Option Addr} {lcap n : Nat} {bad : Int} (h : PgAt w rb L la lcap n bad) (hb : 0 ≤ bad) (q : Nat) (s : List UInt8) :
    Calls Tryz.prog 49 #[.pointer (some ⟨rb, 0, none⟩), .int .i64 (q : Int), .string ⟨s.toArray⟩] w fun e w' => e = .returned (.bool false) ∧ w' = w.drew := by
  have hd := h.later (Below.refl _ _).drew
  obtain ⟨c0, c1, c2⟩ := hd.cells
  have hnb : ¬ bad < 0 := by omega
  generalize (⟨s.toArray⟩ : ByteArray) = B
  clear h hd
  go_enter Tryz.func49, Tryz.ntmps49
  go_upto_region 1 with fail
  refine wp_region_seq [(0, false), (0, false), (0, false), (0, false), (0, false), (0, false), (0, false), (0, false), (0, false), (0, false), (0, false), (0, false), (0, false), (0, false), (0, false), (0, false), (0, false), (0, false), (0, false), (0, false), (0, false), (0, false), (0, false), (0, false), (0, false), (0, false), (0, false), (0, false), (0, false), (0, false), (0, false), (0, false), (0, false), (0, false), (0, false), (0, false), (0, false), (0, false), (0, false), (0, false), (0, false), (0, false), (0, false), (0, false), (0, false), (0, false), (0, false), (0, false)] (by kernel_rfl) (by kernel_rfl) (by kernel_rfl) (fun _ _ _ d _ h => by cases d <;> exact h) ?_
  repeat
    first
    | (first | with_reducible refine sp0 (fun K hK => ?_) | with_reducible refine sp1 (fun K hK => ?_) | with_reducible refine sp2 (fun K hK => ?_) | with_reducible refine sp3 (fun K hK => ?_) | with_reducible refine sp4 (fun K hK => ?_)
       go_simp
       first
       | (with_reducible refine hK _ _ ?_; clear hK K)
       | (with_reducible apply Exists.intro
          refine ⟨fun x hx => ?_, hK _ _ ?_⟩
          first
            | (with_reducible exact rfl)
            | (have y0 := keepc hx c0; have y1 := keepc hx c1; have y2 := keepc hx c2; go_simp; done)
            | (have y0 := keepc hx c0; have y1 := keepc hx c1; have y2 := keepc hx c2; go_simp; with_reducible exact rfl)
          clear hK K))
    | (first | with_reducible refine sk0 ?_ (fun K hK => ?_) | with_reducible refine sk1 ?_ (fun K hK => ?_) | with_reducible refine sk2 ?_ (fun K hK => ?_) | with_reducible refine sk3 ?_ (fun K hK => ?_) | with_reducible refine sk4 ?_ (fun K hK => ?_)
       rfl
       go_simp
       with_reducible refine hK _ _ ?_
       clear hK K)
  with_reducible refine seq_nil ?_
  go_wp2_with fail
  go_ret
  exact ⟨rfl, rfl⟩
set_option maxRecDepth 100000 in
set_option maxHeartbeats 4000000 in
theorem may_end {w : World} {rb : Nat} {L : List Lx.Tok} {la : Option Addr} {lcap n : Nat} (h : PgAt w rb L la lcap n (-1)) (hn : n = L.length) (q : Nat) (s : List UInt8) :
    Calls Tryz.prog 49 #[.pointer (some ⟨rb, 0, none⟩), .int .i64 (q : Int), .string ⟨s.toArray⟩] w fun e w' => e = .returned (.bool false) ∧ w' = w.drew := by
  have hd := h.later (Below.refl _ _).drew
  obtain ⟨c0, c1, c2⟩ := hd.cells
  subst hn
  obtain ⟨m, hm⟩ : ∃ m, L.length = m := ⟨_, rfl⟩
  rw [hm] at c0 c1
  generalize (⟨s.toArray⟩ : ByteArray) = B
  clear h hd hm
  go_enter Tryz.func49, Tryz.ntmps49
  go_upto_region 1 with fail
  refine wp_region_seq [(0, false), (0, false), (0, false), (0, false), (0, false), (0, false), (0, false), (0, false), (0, false), (0, false), (0, false), (0, false), (0, false), (0, false), (0, false), (0, false), (0, false), (0, false), (0, false), (0, false), (0, false), (0, false), (0, false), (0, false), (0, false), (0, false), (0, false), (0, false), (0, false), (0, false), (0, false), (0, false), (0, false), (0, false), (0, false), (0, false), (0, false), (0, false), (0, false), (0, false), (0, false), (0, false), (0, false), (0, false), (0, false), (0, false), (0, false), (0, false)] (by kernel_rfl) (by kernel_rfl) (by kernel_rfl) (fun _ _ _ d _ h => by cases d <;> exact h) ?_
  repeat
    first
    | (first | with_reducible refine sp0 (fun K hK => ?_) | with_reducible refine sp1 (fun K hK => ?_) | with_reducible refine sp2 (fun K hK => ?_) | with_reducible refine sp3 (fun K hK => ?_) | with_reducible refine sp4 (fun K hK => ?_)
       go_simp
       first
       | (with_reducible refine hK _ _ ?_; clear hK K)
       | (with_reducible apply Exists.intro
          refine ⟨fun x hx => ?_, hK _ _ ?_⟩
          first
            | (with_reducible exact rfl)
            | (have y0 := keepc hx c0; have y1 := keepc hx c1; have y2 := keepc hx c2; go_simp; done)
            | (have y0 := keepc hx c0; have y1 := keepc hx c1; have y2 := keepc hx c2; go_simp; with_reducible exact rfl)
          clear hK K))
    | (first | with_reducible refine sk0 ?_ (fun K hK => ?_) | with_reducible refine sk1 ?_ (fun K hK => ?_) | with_reducible refine sk2 ?_ (fun K hK => ?_) | with_reducible refine sk3 ?_ (fun K hK => ?_) | with_reducible refine sk4 ?_ (fun K hK => ?_)
       rfl
       go_simp
       with_reducible refine hK _ _ ?_
       clear hK K)
  with_reducible refine seq_nil ?_
  go_wp2_with fail
  go_ret
  exact ⟨rfl, rfl⟩
set_option maxRecDepth 100000 in
set_option maxHeartbeats 4000000 in
theorem may_at {w : World} {rb : Nat} {L : List Lx.Tok} {la : Option Addr} {lcap n : Nat} (h : PgAt w rb L la lcap n (-1)) {x : Lx.Tok} (hx : L[n]? = some x) (q : Nat) (s : List UInt8) :
    Calls Tryz.prog 49 #[.pointer (some ⟨rb, 0, none⟩), .int .i64 (q : Int), .string ⟨s.toArray⟩] w fun e w' => e = .returned (.bool (isTk L n q s)) ∧ w' = if isTk L n q s = true then w.drew.setCell ⟨rb, 1, none⟩ (.int .i64 ((n + 1 : Nat) : Int)) else w.drew := by
  have hd := h.later (Below.refl _ _).drew
  obtain ⟨c0, c1, c2⟩ := hd.cells
  obtain ⟨hlt, hx'⟩ := List.getElem?_eq_some_iff.1 hx
  obtain ⟨g, rfl, hg, hN⟩ := hd.toks.resolve_left (fun e => by rw [e] at hlt; simp at hlt)
  obtain ⟨d0, d3⟩ := hN n hlt
  rw [hx'] at d0 d3
  rw [isTk_some hx]
  have hsm := h.small
  obtain ⟨m, hm⟩ : ∃ m, L.length = m := ⟨_, rfl⟩
  rw [hm] at c0 hlt hsm
  have hlt' : (n : Int) < (m : Int) := by omega
  have fr : w.drew.frozen? ⟨rb, 1, none⟩ = false := by simp [World.frozen?, hd.heap]
  obtain ⟨k, hk⟩ : ∃ k, x.kind = k := ⟨_, rfl⟩
  rw [hk] at d0 ⊢
  obtain ⟨A, hA⟩ : ∃ A : ByteArray, (⟨x.s.toArray⟩ : ByteArray) = A := ⟨_, rfl⟩
  obtain ⟨B, hB⟩ : ∃ B : ByteArray, (⟨s.toArray⟩ : ByteArray) = B := ⟨_, rfl⟩
  rw [hA] at d3
  rw [hB]
  obtain ⟨r, hr⟩ : ∃ r, (A.toList == B.toList) = r := ⟨_, rfl⟩
  have hAB : decide (x.s = s) = r := by rw [← hr, ← hA, ← hB, ByteArray.toList_mk, ByteArray.toList_mk, Bool.eq_iff_iff]; simp
  rw [hAB]
  clear hA hB hAB hN hx hx' h hm hk hd
  by_cases hkq : k = q
  · subst hkq
    go_enter Tryz.func49, Tryz.ntmps49
    go_upto_region 1 with fail
    refine wp_region_seq [(0, false), (0, false), (0, false), (0, false), (0, false), (0, false), (0, false), (0, false), (0, false), (0, false), (0, false), (0, false), (0, false), (0, false), (0, false), (0, false), (0, false), (0, false), (0, false), (0, false), (0, false), (0, false), (0, false), (0, false), (0, false), (0, false), (0, false), (0, false), (0, false), (0, false), (0, false), (0, false), (0, false), (0, false), (0, false), (0, false), (0, false), (0, false), (0, false), (0, false), (0, false), (0, false), (0, false), (0, false), (0, false), (0, false), (0, false), (0, false)] (by kernel_rfl) (by kernel_rfl) (by kernel_rfl) (fun _ _ _ d _ h => by cases d <;> exact h) ?_
    repeat
      first
      | (first | with_reducible refine sp0 (fun K hK => ?_) | with_reducible refine sp1 (fun K hK => ?_) | with_reducible refine sp2 (fun K hK => ?_) | with_reducible refine sp3 (fun K hK => ?_) | with_reducible refine sp4 (fun K hK => ?_)
         go_simp
         first
         | (with_reducible refine hK _ _ ?_; clear hK K)
         | (with_reducible apply Exists.intro
            refine ⟨fun x hx => ?_, hK _ _ ?_⟩
            first
              | (with_reducible exact rfl)
              | (have y0 := keepc hx c0; have y1 := keepc hx c1; have y2 := keepc hx c2; have y3 := keepc hx d0; have y4 := keepc hx d3; go_simp; done)
              | (have y0 := keepc hx c0; have y1 := keepc hx c1; have y2 := keepc hx c2; have y3 := keepc hx d0; have y4 := keepc hx d3; go_simp; with_reducible exact rfl)
            clear hK K))
      | (first | with_reducible refine sk0 ?_ (fun K hK => ?_) | with_reducible refine sk1 ?_ (fun K hK => ?_) | with_reducible refine sk2 ?_ (fun K hK => ?_) | with_reducible refine sk3 ?_ (fun K hK => ?_) | with_reducible refine sk4 ?_ (fun K hK => ?_)
         rfl
         go_simp
         with_reducible refine hK _ _ ?_
         clear hK K)
    with_reducible refine seq_nil ?_
    cases r
    · go_wp2_with fail
      go_ret
      exact ⟨by simp, by simp⟩
    · go_wp2_with fail
      go_ret
      exact ⟨by simp, by simp⟩
  · have hkn : ((k : Int) == (q : Int)) = false := by simp; omega
    have hd : decide (k = q) = false := decide_eq_false hkq
    rw [hd]
    clear hd hr
    go_enter Tryz.func49, Tryz.ntmps49
    go_upto_region 1 with fail
    refine wp_region_seq [(0, false), (0, false), (0, false), (0, false), (0, false), (0, false), (0, false), (0, false), (0, false), (0, false), (0, false), (0, false), (0, false), (0, false), (0, false), (0, false), (0, false), (0, false), (0, false), (0, false), (0, false), (0, false), (0, false), (0, false), (0, false), (0, false), (0, false), (0, false), (0, false), (0, false), (0, false), (0, false), (0, false), (0, false), (0, false), (0, false), (0, false), (0, false), (0, false), (0, false), (0, false), (0, false), (0, false), (0, false), (0, false), (0, false), (0, false), (0, false)] (by kernel_rfl) (by kernel_rfl) (by kernel_rfl) (fun _ _ _ d _ h => by cases d <;> exact h) ?_
    repeat
      first
      | (first | with_reducible refine sp0 (fun K hK => ?_) | with_reducible refine sp1 (fun K hK => ?_) | with_reducible refine sp2 (fun K hK => ?_) | with_reducible refine sp3 (fun K hK => ?_) | with_reducible refine sp4 (fun K hK => ?_)
         go_simp
         first
         | (with_reducible refine hK _ _ ?_; clear hK K)
         | (with_reducible apply Exists.intro
            refine ⟨fun x hx => ?_, hK _ _ ?_⟩
            first
              | (with_reducible exact rfl)
              | (have y0 := keepc hx c0; have y1 := keepc hx c1; have y2 := keepc hx c2; have y3 := keepc hx d0; have y4 := keepc hx d3; go_simp; done)
              | (have y0 := keepc hx c0; have y1 := keepc hx c1; have y2 := keepc hx c2; have y3 := keepc hx d0; have y4 := keepc hx d3; go_simp; with_reducible exact rfl)
            clear hK K))
      | (first | with_reducible refine sk0 ?_ (fun K hK => ?_) | with_reducible refine sk1 ?_ (fun K hK => ?_) | with_reducible refine sk2 ?_ (fun K hK => ?_) | with_reducible refine sk3 ?_ (fun K hK => ?_) | with_reducible refine sk4 ?_ (fun K hK => ?_)
         rfl
         go_simp
         with_reducible refine hK _ _ ?_
         clear hK K)
    with_reducible refine seq_nil ?_
    go_wp2_with fail
    go_ret
    exact ⟨by simp, by simp⟩
/-- The page's reader goes behind the token if it is this one. -/
theorem may_any {w : World} {rb : Nat} {L : List Lx.Tok} {la : Option Addr} {lcap n : Nat} (h : PgAt w rb L la lcap n (-1)) (q : Nat) (s : List UInt8) :
    Calls Tryz.prog 49 #[.pointer (some ⟨rb, 0, none⟩), .int .i64 (q : Int), .string ⟨s.toArray⟩] w fun e w' => e = .returned (.bool (isTk L n q s)) ∧ PgAt w' rb L la lcap (if isTk L n q s = true then n + 1 else n) (-1) ∧ PgKeep rb w w' := by
  have hdk : PgKeep rb w w.drew := PgKeep.of_below (Below.refl _ _).drew (Nat.le_of_lt h.lt)
  cases hx : L[n]? with
  | none =>
    have he : n = L.length := by have := h.fit; have := List.getElem?_eq_none_iff.1 hx; omega
    rw [isTk_none he]
    refine (may_end h he q s).mono ?_
    rintro e w' ⟨rfl, rfl⟩
    exact ⟨rfl, h.later (Below.refl _ _).drew, hdk⟩
  | some x =>
    have hlt := (List.getElem?_eq_some_iff.1 hx).1
    refine (may_at h hx q s).mono ?_
    rintro e w' ⟨rfl, hw⟩
    refine ⟨rfl, ?_⟩
    cases hb : isTk L n q s with
    | false =>
      rw [hb] at hw
      subst hw
      exact ⟨h.later (Below.refl _ _).drew, hdk⟩
    | true =>
      rw [hb] at hw
      simp only [if_true] at hw ⊢
      subst hw
      exact ⟨(h.later (Below.refl _ _).drew).moved (by omega), hdk.trans PgKeep.set⟩
end Go.Proofs.YtideicoifinnoaaGreatDoor
namespace Go.Proofs.YtideicoifinnoaaGreatDoor
open Go Go.RowKit
open Tp (T)

/-- A type that the call made, of what it was given and of new blocks. -/
def NewG (G : Nat → Prop) (t : T) (w : World) (e : Ending) (w' : World) : Prop := ∃ a cap, e = .returned (tv t a cap) ∧ TyAt (fun b => G b ∨ (w.heap.size ≤ b ∧ b < w'.heap.size)) w' t a cap ∧ Below w.heap.size w w'
theorem newG_ret {G : Nat → Prop} {t : T} {w : World} : ∀ e w', NewG G t w e w' → ∃ v, e = .returned v := fun _ _ ⟨_, _, h, _⟩ => ⟨_, h⟩
theorem rowG_one {G : Nat → Prop} {w1 : World} {t : T} {a : Option Addr} {cap : Nat} (hG : ∀ b, G b → b < w1.heap.size) (hty : TyAt G w1 t a cap) {k n : Int} {m : Nat} (hk : t.kind = k) (hn : t.num = n) (hm : t.kids.length = m) :
    KidsAt (fun b => G b ∨ b = w1.heap.size) (w1.alloc (.cells #[.int .i64 k, .int .i64 n, .slice a m cap] 24)) [t] (some ⟨w1.heap.size, 0, none⟩) := by
  subst hk hn hm
  refine KidsAt.of_nodes (G := fun b => G b ∨ b = w1.heap.size) (.inr rfl) [t] 0 (fun i hi => ?_)
  obtain rfl : i = 0 := by simpa using hi
  have h := World.alloc_heap_new w1 (.cells #[.int .i64 t.kind, .int .i64 t.num, .slice a t.kids.length cap] 24)
  exact NodeAt.mk' (hty.below ((Below.refl w1.heap.size w1).alloc (Nat.le_refl _) _) hG (fun b h => .inl h)) (cell_box h rfl rfl) (cell_box h rfl rfl) (cell_box h rfl rfl)
theorem rowG_two {G : Nat → Prop} {w1 : World} {t u : T} {a b : Option Addr} {cap cap' : Nat} (hG : ∀ b, G b → b < w1.heap.size) (ht : TyAt G w1 t a cap) (hu : TyAt G w1 u b cap') {k n k' n' : Int} {m m' : Nat} (hk : t.kind = k) (hn : t.num = n) (hm : t.kids.length = m) (hk' : u.kind = k') (hn' : u.num = n') (hm' : u.kids.length = m') :
    KidsAt (fun b => G b ∨ b = w1.heap.size) (w1.alloc (.cells #[.int .i64 k, .int .i64 n, .slice a m cap, .int .i64 k', .int .i64 n', .slice b m' cap'] 24)) [t, u] (some ⟨w1.heap.size, 0, none⟩) := by
  subst hk hn hm hk' hn' hm'
  refine KidsAt.of_nodes (G := fun b => G b ∨ b = w1.heap.size) (.inr rfl) [t, u] 0 (fun i hi => ?_)
  have h := World.alloc_heap_new w1 (.cells #[.int .i64 t.kind, .int .i64 t.num, .slice a t.kids.length cap, .int .i64 u.kind, .int .i64 u.num, .slice b u.kids.length cap'] 24)
  have hi2 : i = 0 ∨ i = 1 := by simp at hi; omega
  rcases hi2 with rfl | rfl
  · exact NodeAt.mk' (ht.below ((Below.refl w1.heap.size w1).alloc (Nat.le_refl _) _) hG (fun b h => .inl h)) (cell_box h rfl rfl) (cell_box h rfl rfl) (cell_box h rfl rfl)
  · exact NodeAt.mk' (hu.below ((Below.refl w1.heap.size w1).alloc (Nat.le_refl _) _) hG (fun b h => .inl h)) (cell_box h rfl rfl) (cell_box h rfl rfl) (cell_box h rfl rfl)
theorem madeG_ret {G : Nat → Prop} {fn : Func} {w w1 w3 : World} {kk : Int} {l : List T} {n c : Nat} {act : Act} (hI : I64 kk) (hn : l.length = n) (hn2 : n ≤ 2) (hb : Below w.heap.size w w1)
    (hx : w3.heap[c]? = some (.cells #[.int .i64 kk, .int .i64 0, .slice (some ⟨w1.heap.size, 0, none⟩) n n] 24)) (h13 : Below w1.heap.size w1 w3) (hle : w.heap.size ≤ w1.heap.size) (hlt : w1.heap.size < w3.heap.size)
    (hK : KidsAt (fun b => G b ∨ b = w1.heap.size) w3 l (some ⟨w1.heap.size, 0, none⟩)) {p : Tmp} (hr : fn.results = #[.cell p 24]) (hd : act.defers = []) (hp : act.tmps.getD p undef = .pointer (some ⟨c, 0, none⟩)) : bodyPost Tryz.prog fn (NewG G (.mk kk 0 l) w) .ret act w3 := by
  subst hn
  have hty : TyAt (fun b => G b ∨ b = w1.heap.size) w3 (.mk kk 0 l) (some ⟨w1.heap.size, 0, none⟩) l.length := ⟨hI, by show I64 0; unfold I64; omega, Nat.le_refl _, by unfold maxLen; show l.length ≤ _; omega, hK⟩
  exact bodyPost_ret_by (v := tv (.mk kk 0 l) (some ⟨w1.heap.size, 0, none⟩) l.length) (results_cell_row (p := p) (ty := 24) hr _ _ c 24 _ (0, 0) _ hp hx Tryz.underlying24 rfl (by kernel_rfl)) hd ⟨_, _, rfl, hty.moved (fun _ _ _ => rfl) (fun b hb => hb.imp id (fun e => by subst e; exact ⟨hle, hlt⟩)), hb.trans (h13.mono hle)⟩
set_option maxRecDepth 100000 in
theorem listG_any (G : Nat → Prop) (t : T) (a : Option Addr) (cap : Nat) (w : World) (hG : ∀ b, G b → b < w.heap.size) (hty : TyAt G w t a cap) :
    Calls Tryz.prog 62 #[tv t a cap] w (NewG G (.mk 8 0 [t]) w) := by
  obtain ⟨k0, hk0⟩ : ∃ k0, t.kind = k0 := ⟨_, rfl⟩
  obtain ⟨n0, hn0⟩ : ∃ n0, t.num = n0 := ⟨_, rfl⟩
  obtain ⟨m0, hm0⟩ : ∃ m0, t.kids.length = m0 := ⟨_, rfl⟩
  unfold tv
  rw [hk0, hn0, hm0]
  have HT := Lib.hid hty; have HG := Lib.hid hG
  clear hty hG
  go_enter Tryz.func62, Tryz.ntmps62
  go_wp2_with fail
  obtain ⟨w1, hw1⟩ : ∃ w1, (w.alloc (.cells #[.int .i64 k0, .int .i64 n0, .slice a m0 cap] 24)).alloc (.cells #[.int .i64 8, .int .i64 0, .slice (some ⟨w.heap.size + 1 + 1, 0, none⟩) 1 1] 24) = w1 := ⟨_, rfl⟩
  have hx := box2 w #[.int .i64 k0, .int .i64 n0, .slice a m0 cap] #[.int .i64 8, .int .i64 0, .slice (some ⟨w.heap.size + 1 + 1, 0, none⟩) 1 1] 24 24
  have hb : Below w.heap.size w w1 := by rw [← hw1]; exact ((Below.refl _ _).alloc (Nat.le_refl _) _).alloc (by simp) _
  have hs : w1.heap.size = w.heap.size + 1 + 1 := by rw [← hw1]; simp
  rw [hw1] at hx ⊢
  rw [← hs] at hx ⊢
  have hal : Below w1.heap.size w1 (w1.alloc (.cells #[.int .i64 k0, .int .i64 n0, .slice a m0 cap] 24)) := (Below.refl _ _).alloc (Nat.le_refl _) _
  refine madeG_ret (c := w.heap.size + 1) (by unfold I64; omega) rfl (by simp) hb ((hal.block _ (by omega)).trans hx) hal (by omega) (by simp) (rowG_one (fun b h => Nat.lt_of_lt_of_le (HG.out b h) hb.size) (HT.out.below hb HG.out (fun b h => h)) hk0 hn0 hm0) (p := 2) (by kernel_rfl) rfl rfl
set_option maxRecDepth 100000 in
theorem twoG_any (G : Nat → Prop) (k : Int) (hk : I64 k) (t : T) (a : Option Addr) (cap : Nat) (u : T) (b : Option Addr) (cap' : Nat) (w : World) (hG : ∀ b, G b → b < w.heap.size) (hty : TyAt G w t a cap) (hty' : TyAt G w u b cap') :
    Calls Tryz.prog 50 #[.int .i64 k, tv t a cap, tv u b cap'] w (NewG G (.mk k 0 [t, u]) w) := by
  obtain ⟨k0, hk0⟩ : ∃ k0, t.kind = k0 := ⟨_, rfl⟩
  obtain ⟨n0, hn0⟩ : ∃ n0, t.num = n0 := ⟨_, rfl⟩
  obtain ⟨m0, hm0⟩ : ∃ m0, t.kids.length = m0 := ⟨_, rfl⟩
  obtain ⟨k9, hk9⟩ : ∃ k0, u.kind = k0 := ⟨_, rfl⟩
  obtain ⟨n9, hn9⟩ : ∃ n0, u.num = n0 := ⟨_, rfl⟩
  obtain ⟨m9, hm9⟩ : ∃ m0, u.kids.length = m0 := ⟨_, rfl⟩
  unfold tv
  rw [hk0, hn0, hm0, hk9, hn9, hm9]
  have HT := Lib.hid hty; have HU := Lib.hid hty'; have HG := Lib.hid hG
  clear hty hty' hG
  go_enter Tryz.func50, Tryz.ntmps50
  go_wp2_with fail
  obtain ⟨w0, hw0⟩ : ∃ w0, (w.alloc (.cells #[.int .i64 k0, .int .i64 n0, .slice a m0 cap] 24)).alloc (.cells #[.int .i64 k9, .int .i64 n9, .slice b m9 cap'] 24) = w0 := ⟨_, rfl⟩
  have hb0 : Below w.heap.size w w0 := by rw [← hw0]; exact ((Below.refl _ _).alloc (Nat.le_refl _) _).alloc (by simp) _
  have hs0 : w0.heap.size = w.heap.size + 1 + 1 := by rw [← hw0]; simp
  rw [hw0, ← hs0]
  have hx := World.alloc_heap_new w0 (.cells #[.int .i64 k, .int .i64 0, .slice (some ⟨w0.heap.size + 1, 0, none⟩) 2 2] 24)
  have hb1 : Below w0.heap.size w0 (w0.alloc (.cells #[.int .i64 k, .int .i64 0, .slice (some ⟨w0.heap.size + 1, 0, none⟩) 2 2] 24)) := (Below.refl _ _).alloc (Nat.le_refl _) _
  have hs1 : (w0.alloc (.cells #[.int .i64 k, .int .i64 0, .slice (some ⟨w0.heap.size + 1, 0, none⟩) 2 2] 24)).heap.size = w0.heap.size + 1 := by simp
  generalize hw1 : w0.alloc (.cells #[.int .i64 k, .int .i64 0, .slice (some ⟨w0.heap.size + 1, 0, none⟩) 2 2] 24) = w1 at hx hb1 hs1 ⊢
  rw [← hs1] at hx
  have hb := hb0.trans (hb1.mono hb0.size)
  have hal : Below w1.heap.size w1 (w1.alloc (.cells #[.int .i64 k0, .int .i64 n0, .slice a m0 cap, .int .i64 k9, .int .i64 n9, .slice b m9 cap'] 24)) := (Below.refl _ _).alloc (Nat.le_refl _) _
  refine madeG_ret (c := w0.heap.size) hk rfl (by simp) hb ((hal.block _ (by omega)).trans hx) hal (by omega) (by simp) (rowG_two (fun b h => Nat.lt_of_lt_of_le (HG.out b h) hb.size) (HT.out.below hb HG.out (fun b h => h)) (HU.out.below hb HG.out (fun b h => h)) hk0 hn0 hm0 hk9 hn9 hm9) (p := 6) (by kernel_rfl) rfl rfl
set_option maxRecDepth 100000 in
theorem leafG_any (k : Nat) (w : World) : Calls Tryz.prog 72 #[.int .i64 (k : Int)] w fun e w' => e = .returned (tv (leafT k) none 0) ∧ Below w.heap.size w w' := by
  have hx := World.alloc_heap_new w (.cells #[.int .i64 (k : Int), .int .i64 0, .slice none 0 0] 24)
  have hb : Below w.heap.size w (w.alloc (.cells #[.int .i64 (k : Int), .int .i64 0, .slice none 0 0] 24)) := (Below.refl _ _).alloc (Nat.le_refl _) _
  go_enter Tryz.func72, Tryz.ntmps72
  go_wp2_with fail
  exact bodyPost_ret_by (v := tv (leafT k) none 0) (results_cell_row (p := 2) (ty := 24) (by kernel_rfl) _ _ w.heap.size 24 _ (0, 0) _ rfl hx Tryz.underlying24 rfl (by kernel_rfl)) rfl ⟨rfl, hb⟩
/-- A type stays where the reader moves. -/
theorem ty_keep {rb : Nat} {w w' : World} (hk : PgKeep rb w w') {G G' : Nat → Prop} (hG : ∀ b, G b → b ≠ rb ∧ b < w.heap.size) (hG' : ∀ b, G b → G' b) {t : T} {a : Option Addr} {cap : Nat} (h : TyAt G w t a cap) : TyAt G' w' t a cap :=
  h.moved (fun b o hb => by
    unfold World.cell?
    obtain ⟨h1, h2⟩ := hG b hb
    rcases Nat.lt_or_ge b rb with h3 | h3
    · rw [hk.low.block b h3]
    · rw [hk.rest b (by omega) h2]) hG'
/-- What a call of the page's reader hands back. -/
def PgPost (rb : Nat) (L : List Lx.Tok) (la : Option Addr) (lcap : Nat) (d : Nt.Rd) (w : World) (e : Ending) (w' : World) : Prop :=
  ∃ t a cap, e = .returned (tv t a cap) ∧ TyAt (fun b => w.heap.size ≤ b ∧ b < w'.heap.size) w' t a cap ∧ PgKeep rb w w' ∧
    ((∃ r n, d = .ok t r ∧ r = ksAt L n ∧ PgAt w' rb L la lcap n (-1)) ∨ (∃ n b : Nat, d = .err (ksAt L b) ∧ b ≤ L.length ∧ PgAt w' rb L la lcap n (b : Int)))
theorem pgPost_ret {rb : Nat} {L : List Lx.Tok} {la : Option Addr} {lcap : Nat} {d : Nt.Rd} {w : World} : ∀ e w', PgPost rb L la lcap d w e w' → ∃ v, e = .returned v := fun _ _ ⟨_, _, _, h, _⟩ => ⟨_, h⟩
def AtomC (rb : Nat) (L : List Lx.Tok) (la : Option Addr) (lcap f : Nat) : Prop := ∀ n w, PgAt w rb L la lcap n (-1) → L.length - n < f → Calls Tryz.prog 61 #[.pointer (some ⟨rb, 0, none⟩)] w (PgPost rb L la lcap (Nt.atomD f (ksAt L n)) w)
def PostC (rb : Nat) (L : List Lx.Tok) (la : Option Addr) (lcap f : Nat) : Prop := ∀ n w, PgAt w rb L la lcap n (-1) → L.length - n < f → Calls Tryz.prog 48 #[.pointer (some ⟨rb, 0, none⟩)] w (PgPost rb L la lcap (Nt.atomD f (ksAt L n)).post w)
def TypeC (rb : Nat) (L : List Lx.Tok) (la : Option Addr) (lcap f : Nat) : Prop := ∀ n w, PgAt w rb L la lcap n (-1) → L.length - n < f → Calls Tryz.prog 28 #[.pointer (some ⟨rb, 0, none⟩)] w (PgPost rb L la lcap (Nt.typeD f (ksAt L n)) w)
/-- A box of the call's own is written. -/
theorem PgKeep.box {rb c j : Nat} {w w1 : World} {v : Value} (h : PgKeep rb w w1) (hr : rb ≤ c) (hc : w.heap.size ≤ c) : PgKeep rb w (w1.setCell ⟨c, j, none⟩ v) :=
  ⟨h.low.setCell (p := ⟨c, j, none⟩) hr _, fun k h1 h2 => (Below.heap_setCell _ _ _ _ (by show k ≠ c; omega)).trans (h.rest k h1 h2)⟩
theorem PgAt.box {w : World} {rb c j : Nat} {L : List Lx.Tok} {la : Option Addr} {lcap n : Nat} {bad : Int} {v : Value} (h : PgAt w rb L la lcap n bad) (hc : rb < c) : PgAt (w.setCell ⟨c, j, none⟩ v) rb L la lcap n bad :=
  ⟨(Below.heap_setCell _ _ _ _ (by show rb ≠ c; omega)).trans h.heap, h.toks.below ((Below.refl rb w).setCell (p := ⟨c, j, none⟩) (by show rb ≤ c; omega) _), h.fit, h.small⟩
/-- A type is written into a box. -/
structure BoxPut (rb c : Nat) (w1 w2 : World) (t : T) (a : Option Addr) (cap : Nat) : Prop where
  box : w2.heap[c]? = some (.cells #[.int .i64 t.kind, .int .i64 t.num, .slice a t.kids.length cap] 24 (0, 0))
  rest : ∀ k, k ≠ c → w2.heap[k]? = w1.heap[k]?
  size : w2.heap.size = w1.heap.size
theorem box_put {rb c : Nat} {w1 w2 : World} {x y z : Value} (hx : w1.heap[c]? = some (.cells #[x, y, z] 24 (0, 0))) {t : T} {a : Option Addr} {cap : Nat} (hw : ((w1.setCell ⟨c, 0, none⟩ (.int .i64 t.kind)).setCell ⟨c, 1, none⟩ (.int .i64 t.num)).setCell ⟨c, 2, none⟩ (.slice a t.kids.length cap) = w2) : BoxPut rb c w1 w2 t a cap := by
  have hB := boxed hx (.int .i64 t.kind) (.int .i64 t.num) (.slice a t.kids.length cap)
  rw [hw] at hB
  exact ⟨hB.cells, hB.rest, hB.size⟩
theorem BoxPut.keep {rb c : Nat} {w w1 w2 : World} {t : T} {a : Option Addr} {cap : Nat} (h : BoxPut rb c w1 w2 t a cap) (hw : ((w1.setCell ⟨c, 0, none⟩ (.int .i64 t.kind)).setCell ⟨c, 1, none⟩ (.int .i64 t.num)).setCell ⟨c, 2, none⟩ (.slice a t.kids.length cap) = w2) (hk : PgKeep rb w w1) (hr : rb ≤ c) (hc : w.heap.size ≤ c) : PgKeep rb w w2 := by
  have := h.size
  rw [← hw]
  exact ((hk.box hr hc).box hr hc).box hr hc
theorem BoxPut.at {rb c : Nat} {w1 w2 : World} {t : T} {a : Option Addr} {cap : Nat} (h : BoxPut rb c w1 w2 t a cap) (hw : ((w1.setCell ⟨c, 0, none⟩ (.int .i64 t.kind)).setCell ⟨c, 1, none⟩ (.int .i64 t.num)).setCell ⟨c, 2, none⟩ (.slice a t.kids.length cap) = w2) {L : List Lx.Tok} {la : Option Addr} {lcap n : Nat} {bad : Int} (hp : PgAt w1 rb L la lcap n bad) (hr : rb < c) : PgAt w2 rb L la lcap n bad := by
  have := h.size
  rw [← hw]
  exact ((hp.box hr).box hr).box hr
theorem BoxPut.ty {rb c : Nat} {w1 w2 : World} {t : T} {a : Option Addr} {cap : Nat} (h : BoxPut rb c w1 w2 t a cap) {G G' : Nat → Prop} (hG : ∀ b, G b → b ≠ c) (hG' : ∀ b, G b → G' b) {u : T} {a' : Option Addr} {cap' : Nat} (hu : TyAt G w1 u a' cap') : TyAt G' w2 u a' cap' :=
  hu.moved (fun b o hb => by unfold World.cell?; rw [h.rest b (hG b hb)]) hG'
end Go.Proofs.YtideicoifinnoaaGreatDoor
namespace Go.Proofs.YtideicoifinnoaaGreatDoor
open Go Go.RowKit
open Tp (T)

/-- What a function of the page's reader keeps while it runs: its result's box (c2), its type's box (c3). -/
structure PgRun (rb : Nat) (w wr : World) (c3 : Nat) (t : T) (a : Option Addr) (cap : Nat) : Prop where
  keep : PgKeep rb w wr
  res : wr.heap[w.heap.size]? = some (.cells #[.int .i64 0, .int .i64 0, .slice none 0 0] 24 (0, 0))
  box : wr.heap[c3]? = some (.cells #[.int .i64 t.kind, .int .i64 t.num, .slice a t.kids.length cap] 24 (0, 0))
  ty : TyAt (fun b => w.heap.size < b ∧ b ≠ c3 ∧ b < wr.heap.size) wr t a cap
  far : w.heap.size < c3
theorem PgRun.lt {rb : Nat} {w wr : World} {c3 : Nat} {t : T} {a : Option Addr} {cap : Nat} (h : PgRun rb w wr c3 t a cap) : c3 < wr.heap.size := (Array.getElem?_eq_some_iff.1 h.box).1
/-- The reader moves. -/
theorem PgRun.step {rb : Nat} {w wr w2 : World} {c3 : Nat} {t : T} {a : Option Addr} {cap : Nat} (h : PgRun rb w wr c3 t a cap) (hr : rb < w.heap.size) (hk : PgKeep rb wr w2) : PgRun rb w w2 c3 t a cap := by
  have h1 := h.lt
  have h2 := h.far
  exact ⟨h.keep.trans hk, (hk.rest _ hr (by omega)).trans h.res, (hk.rest _ (by omega) h1).trans h.box, ty_keep hk (fun b hb => ⟨by omega, hb.2.2⟩) (fun b hb => ⟨hb.1, hb.2.1, Nat.lt_of_lt_of_le hb.2.2 hk.low.size⟩) h.ty, h2⟩
/-- Another type is written. -/
theorem PgRun.put {rb : Nat} {w w2 w3 : World} {c3 : Nat} {t t2 : T} {a a2 : Option Addr} {cap cap2 : Nat} (h : PgRun rb w w2 c3 t a cap) (hr : rb < w.heap.size) (hty : TyAt (fun b => w.heap.size < b ∧ b ≠ c3 ∧ b < w2.heap.size) w2 t2 a2 cap2)
    (hw : ((w2.setCell ⟨c3, 0, none⟩ (.int .i64 t2.kind)).setCell ⟨c3, 1, none⟩ (.int .i64 t2.num)).setCell ⟨c3, 2, none⟩ (.slice a2 t2.kids.length cap2) = w3) : PgRun rb w w3 c3 t2 a2 cap2 := by
  have h2 := h.far
  have hB := box_put (rb := rb) h.box hw
  exact ⟨hB.keep hw h.keep (by omega) (by omega), (hB.rest _ (by omega)).trans h.res, hB.box, hB.ty (fun b hb => hb.2.1) (fun b hb => ⟨hb.1, hb.2.1, by rw [hB.size]; exact hb.2.2⟩) hty, h2⟩
/-- It is laid as the result. -/
theorem PgRun.done {rb : Nat} {w w2 w3 : World} {c3 : Nat} {t : T} {a : Option Addr} {cap : Nat} (h : PgRun rb w w2 c3 t a cap) (hr : rb < w.heap.size)
    (hw : ((w2.setCell ⟨w.heap.size, 0, none⟩ (.int .i64 t.kind)).setCell ⟨w.heap.size, 1, none⟩ (.int .i64 t.num)).setCell ⟨w.heap.size, 2, none⟩ (.slice a t.kids.length cap) = w3) :
    w3.heap[w.heap.size]? = some (.cells #[.int .i64 t.kind, .int .i64 t.num, .slice a t.kids.length cap] 24 (0, 0)) ∧ TyAt (fun b => w.heap.size ≤ b ∧ b < w3.heap.size) w3 t a cap ∧ PgKeep rb w w3 ∧ ∀ {L : List Lx.Tok} {la : Option Addr} {lcap n : Nat} {bad : Int}, PgAt w2 rb L la lcap n bad → PgAt w3 rb L la lcap n bad := by
  have hB := box_put (rb := rb) h.res hw
  exact ⟨hB.box, hB.ty (fun b hb => by omega) (fun b hb => ⟨by omega, by rw [hB.size]; exact hb.2.2⟩) h.ty, hB.keep hw h.keep (by omega) (Nat.le_refl _), fun hp => hB.at hw hp hr⟩
theorem PgRun.cells {rb : Nat} {w wr : World} {c3 : Nat} {t : T} {a : Option Addr} {cap : Nat} (h : PgRun rb w wr c3 t a cap) {k n : Int} {m : Nat} (hk : t.kind = k) (hn : t.num = n) (hm : t.kids.length = m) :
    (wr.cell? ⟨c3, 0, none⟩ = some (.int .i64 k) ∧ wr.cell? ⟨c3, 1, none⟩ = some (.int .i64 n) ∧ wr.cell? ⟨c3, 2, none⟩ = some (.slice a m cap) ∧ ∀ j, wr.frozen? ⟨c3, j, none⟩ = false) ∧
    (wr.cell? ⟨w.heap.size, 0, none⟩ = some (.int .i64 0) ∧ wr.cell? ⟨w.heap.size, 1, none⟩ = some (.int .i64 0) ∧ wr.cell? ⟨w.heap.size, 2, none⟩ = some (.slice none 0 0) ∧ ∀ j, wr.frozen? ⟨w.heap.size, j, none⟩ = false) := by
  subst hk hn hm
  exact ⟨⟨cell_box h.box rfl rfl, cell_box h.box rfl rfl, cell_box h.box rfl rfl, fun j => by simp [World.frozen?, h.box]⟩, cell_box h.res rfl rfl, cell_box h.res rfl rfl, cell_box h.res rfl rfl, fun j => by simp [World.frozen?, h.res]⟩
/-- It begins: the result's box, what the first call hands back. -/
theorem pgRun_start {rb : Nat} {w w2 : World} (hr : rb < w.heap.size) {t : T} {a : Option Addr} {cap : Nat} (hk : PgKeep rb (w.alloc (.cells #[.int .i64 0, .int .i64 0, .slice none 0 0] 24)) w2)
    (hty : TyAt (fun b => (w.alloc (.cells #[.int .i64 0, .int .i64 0, .slice none 0 0] 24)).heap.size ≤ b ∧ b < w2.heap.size) w2 t a cap) {w3 : World} (hw : w2.alloc (.cells #[.int .i64 t.kind, .int .i64 t.num, .slice a t.kids.length cap] 24) = w3) :
    PgRun rb w w3 w2.heap.size t a cap ∧ PgKeep rb w2 w3 := by
  have h0 := World.alloc_heap_new w (.cells #[.int .i64 0, .int .i64 0, .slice none 0 0] 24)
  have hb0 : Below w.heap.size w (w.alloc (.cells #[.int .i64 0, .int .i64 0, .slice none 0 0] 24)) := (Below.refl _ _).alloc (Nat.le_refl _) _
  have hs0 : (w.alloc (.cells #[.int .i64 0, .int .i64 0, .slice none 0 0] 24)).heap.size = w.heap.size + 1 := by simp
  have hx := World.alloc_heap_new w2 (.cells #[.int .i64 t.kind, .int .i64 t.num, .slice a t.kids.length cap] 24)
  have hb : Below w2.heap.size w2 (w2.alloc (.cells #[.int .i64 t.kind, .int .i64 t.num, .slice a t.kids.length cap] 24)) := (Below.refl _ _).alloc (Nat.le_refl _) _
  have hs2 : w2.heap.size + 1 = w3.heap.size := by rw [← hw]; simp
  rw [hw] at hx hb
  have h1 := hk.low.size
  rw [hs0] at h1 hty
  have hk2 := PgKeep.of_below (rb := rb) hb (by omega)
  refine ⟨⟨((PgKeep.of_below hb0 (Nat.le_of_lt hr)).trans hk).trans hk2, (hb.block _ (by omega)).trans ((hk.rest _ hr (by omega)).trans h0), hx, hty.below hb (fun b h => h.2) (fun b h => ⟨by omega, by omega, by omega⟩), by omega⟩, hk2⟩
set_option maxRecDepth 100000 in
set_option maxHeartbeats 4000000 in
theorem post_of {rb : Nat} {L : List Lx.Tok} {la : Option Addr} {lcap f : Nat} (ha : AtomC rb L la lcap f) : PostC rb L la lcap f := by
  intro n w hpg hf
  have hr := hpg.lt
  have hat := ha n _ (hpg.later ((Below.refl _ _).alloc (Nat.le_refl _) (.cells #[.int .i64 0, .int .i64 0, .slice none 0 0] 24))) hf
  have HR := Lib.hid hr; have HAT := Lib.hid hat
  clear ha hpg hf hr hat
  go_enter Tryz.func48, Tryz.ntmps48
  go_wp2_with fail
  refine HAT.out.mono ?_
  rintro e w2 ⟨t, a, cap, rfl, hty, hk, hd⟩
  obtain ⟨w3, hw3⟩ : ∃ w3, w2.alloc (.cells #[.int .i64 t.kind, .int .i64 t.num, .slice a t.kids.length cap] 24) = w3 := ⟨_, rfl⟩
  obtain ⟨hrun, hk23⟩ := pgRun_start HR.out hk hty hw3
  have hw3' := hw3
  rw [show tv t a cap = Value.agg #[.int .i64 t.kind, .int .i64 t.num, .slice a t.kids.length cap] from rfl]
  obtain ⟨k0, hk0⟩ : ∃ q, t.kind = q := ⟨_, rfl⟩
  obtain ⟨n0, hn0⟩ : ∃ q, t.num = q := ⟨_, rfl⟩
  obtain ⟨m0, hm0⟩ : ∃ q, t.kids.length = q := ⟨_, rfl⟩
  rw [hk0, hn0, hm0] at hw3'
  rw [hk0, hn0, hm0]
  have hpg3 : (∃ r n', Nt.atomD f (ksAt L n) = .ok t r ∧ r = ksAt L n' ∧ PgAt w3 rb L la lcap n' (-1)) ∨ (∃ n' b : Nat, Nt.atomD f (ksAt L n) = .err (ksAt L b) ∧ b ≤ L.length ∧ PgAt w3 rb L la lcap n' (b : Int)) := by
    have hb : Below w2.heap.size w2 w3 := by rw [← hw3]; exact (Below.refl _ _).alloc (Nat.le_refl _) _
    rcases hd with ⟨r, n', h1, h2, h3⟩ | ⟨n', b, h1, h2, h3⟩
    · exact .inl ⟨r, n', h1, h2, h3.later hb⟩
    · exact .inr ⟨n', b, h1, h2, h3.later hb⟩
  have HRUN := Lib.hid hrun; have HP3 := Lib.hid hpg3; have HW3 := Lib.hid hw3'
  clear hty hk hd hk23 hrun hw3 hw3' hpg3
  generalize hD : Nt.atomD f (ksAt L n) = D at HP3 ⊢
  have HD := Lib.hid hD
  clear hD
  go_upto_region 2 with fail
  rw [HW3.out]
  have hstart : ∃ g0, ∃ t1 a1 cap1, PgRun rb w w3 w2.heap.size t1 a1 cap1 ∧
    ((∃ r n', D = .ok t r ∧ Nt.lists (ksAt L n') t1 = Nt.lists r t ∧ PgAt w3 rb L la lcap n' (-1) ∧ g0 = L.length - n' + 1) ∨ (∃ n' b : Nat, D = .err (ksAt L b) ∧ b ≤ L.length ∧ PgAt w3 rb L la lcap n' (b : Int) ∧ g0 = L.length - n' + 1)) := by
    rcases HP3.out with ⟨r, n', h1, h2, h3⟩ | ⟨n', b, h1, h2, h3⟩
    · exact ⟨_, t, a, cap, HRUN.out, .inl ⟨r, n', h1, by rw [h2], h3, rfl⟩⟩
    · exact ⟨_, t, a, cap, HRUN.out, .inr ⟨n', b, h1, h2, h3, rfl⟩⟩
  obtain ⟨g0, hstart⟩ := hstart
  have HST := Lib.hid hstart
  clear hstart
  go_loopg [6] g0 (fun gk _ wr => ∃ t1 a1 cap1, PgRun rb w wr w2.heap.size t1 a1 cap1 ∧
    ((∃ r n', D = .ok t r ∧ Nt.lists (ksAt L n') t1 = Nt.lists r t ∧ PgAt wr rb L la lcap n' (-1) ∧ gk = L.length - n' + 1) ∨ (∃ n' b : Nat, D = .err (ksAt L b) ∧ b ≤ L.length ∧ PgAt wr rb L la lcap n' (b : Int) ∧ gk = L.length - n' + 1)))
  case atStart => exact HST.out
  case round =>
    obtain ⟨t1, a1, cap1, hrun, hcase⟩ := hrel
    obtain ⟨k1, hk1⟩ : ∃ q, t1.kind = q := ⟨_, rfl⟩
    obtain ⟨n1, hn1⟩ : ∃ q, t1.num = q := ⟨_, rfl⟩
    obtain ⟨m1, hm1⟩ : ∃ q, t1.kids.length = q := ⟨_, rfl⟩
    rcases hcase with ⟨r, n', hd1, hd2, hpa, rfl⟩ | ⟨n', b, hd1, hd2, hpa, rfl⟩
    · have hmy := may_any hpa 2 Nt.sWord
      obtain ⟨q, hq⟩ : ∃ q, isTk L n' 2 Nt.sWord = q := ⟨_, rfl⟩
      rw [hq] at hmy
      have HMY := Lib.hid hmy; have HQ := Lib.hid hq; have HRUN3 := Lib.hid hrun; have HD1 := Lib.hid hd1; have HD2 := Lib.hid hd2
      clear hmy hq hpa hrun hd1 hd2
      go_wp2_with fail
      refine HMY.out.mono ?_
      rintro e w4 ⟨rfl, hpa4, hk4⟩
      have hrun4 := HRUN3.out.step HR.out hk4
      have HRUN4 := Lib.hid hrun4; have HPA4 := Lib.hid hpa4
      clear hrun4 hpa4 hk4
      cases q with
      | true =>
        have hcl := listG_any (fun b => w.heap.size < b ∧ b ≠ w2.heap.size ∧ b < w4.heap.size) t1 a1 cap1 w4 (fun b h => h.2.2) HRUN4.out.ty
        rw [show tv t1 a1 cap1 = Value.agg #[.int .i64 k1, .int .i64 n1, .slice a1 m1 cap1] from by unfold tv; rw [hk1, hn1, hm1]] at hcl
        obtain ⟨⟨x0, x1, x2, xf⟩, z0, z1, z2, zf⟩ := HRUN4.out.cells hk1 hn1 hm1
        have HCL := Lib.hid hcl
        clear hk1 hn1 hm1 hcl
        go_wp2_with fail
        refine HCL.out.mono ?_
        rintro e w5 ⟨a5, cap5, rfl, hty5, hb5⟩
        have hk5 := PgKeep.of_below (rb := rb) hb5 (Nat.le_of_lt (Nat.lt_of_lt_of_le HR.out (by have := HRUN4.out.keep.low.size; exact this)))
        have hrun5 := HRUN4.out.step HR.out hk5
        obtain ⟨⟨x0, x1, x2, xf⟩, -⟩ := hrun5.cells rfl rfl rfl
        have hlt4 := HRUN4.out.lt
        have hs4 := HRUN4.out.keep.low.size
        have hs5 := hb5.size
        have hty5' : TyAt (fun b => w.heap.size < b ∧ b ≠ w2.heap.size ∧ b < w5.heap.size) w5 (.mk 8 0 [t1]) a5 cap5 := hty5.moved (fun _ _ _ => rfl) (fun b hb => by
          rcases hb with hb | hb
          · exact ⟨hb.1, hb.2.1, by omega⟩
          · exact ⟨by have := HRUN4.out.far; omega, by omega, hb.2⟩)
        have hpa5 := HPA4.out
        simp only [if_true] at hpa5
        have HRUN5 := Lib.hid hrun5; have HTY5 := Lib.hid hty5'; have HPA5 := Lib.hid (hpa5.later hb5)
        clear hk5 hrun5 hty5 hb5 hty5' hlt4 hs4 hs5 hpa5
        rw [show tv (T.mk 8 0 [t1]) a5 cap5 = Value.agg #[.int .i64 8, .int .i64 0, .slice a5 1 cap5] from rfl]
        go_wp2_with fail
        obtain ⟨w6, hw6⟩ : ∃ w6, ((w5.setCell ⟨w2.heap.size, 0, none⟩ (.int .i64 8)).setCell ⟨w2.heap.size, 1, none⟩ (.int .i64 0)).setCell ⟨w2.heap.size, 2, none⟩ (.slice a5 1 cap5) = w6 := ⟨_, rfl⟩
        rw [hw6]
        have hB := box_put (rb := rb) (t := .mk 8 0 [t1]) HRUN5.out.box hw6
        have hfit := HPA5.out.fit
        go_roundg (L.length - (n' + 1) + 1)
        case measure => omega
        case rel =>
          exact ⟨.mk 8 0 [t1], a5, cap5, HRUN5.out.put HR.out HTY5.out hw6, .inl ⟨r, n' + 1, HD1.out, by rw [← HD2.out]; exact (lists_word HQ.out t1).symm, hB.at hw6 HPA5.out (by have := HRUN5.out.far; have := HR.out; omega), rfl⟩⟩
      | false =>
        obtain ⟨⟨x0, x1, x2, xf⟩, z0, z1, z2, zf⟩ := HRUN4.out.cells hk1 hn1 hm1
        go_wp2_with fail
        obtain ⟨w6, hw6⟩ : ∃ w6, ((w4.setCell ⟨w.heap.size, 0, none⟩ (.int .i64 t1.kind)).setCell ⟨w.heap.size, 1, none⟩ (.int .i64 t1.num)).setCell ⟨w.heap.size, 2, none⟩ (.slice a1 t1.kids.length cap1) = w6 := ⟨_, rfl⟩
        obtain ⟨h1, h2, h3, h4⟩ := HRUN4.out.done HR.out hw6
        rw [hk1, hn1, hm1] at hw6
        rw [hw6]
        refine bodyPost_ret_by (v := tv t1 a1 cap1) (results_cell_row (p := 2) (ty := 24) (by kernel_rfl) _ _ w.heap.size 24 _ (0, 0) _ rfl h1 Tryz.underlying24 rfl (by kernel_rfl)) rfl ⟨t1, a1, cap1, rfl, h2, h3, .inl ⟨ksAt L n', n', ?_, rfl, h4 HPA4.out⟩⟩
        rw [HD.out, HD1.out]
        have := HD2.out
        rw [lists_none HQ.out] at this
        simp only [Nt.Rd.post, ← this]
    · have hmy := may_bad hpa (by omega) 2 Nt.sWord
      have HMY := Lib.hid hmy; have HRUN3 := Lib.hid hrun; have HD1 := Lib.hid hd1; have HD2 := Lib.hid hd2; have HPA := Lib.hid hpa
      clear hmy hpa hrun hd1 hd2
      go_wp2_with fail
      refine HMY.out.mono ?_
      rintro e w4 ⟨rfl, hw4⟩
      have hb4 : Below wr.heap.size wr w4 := by rw [hw4]; exact (Below.refl _ _).drew
      have hrun4 := HRUN3.out.step HR.out (PgKeep.of_below hb4 (Nat.le_of_lt (Nat.lt_of_lt_of_le HR.out (by have := HRUN3.out.keep.low.size; exact this))))
      have HRUN4 := Lib.hid hrun4; have HPA4 := Lib.hid (HPA.out.later hb4)
      clear hrun4 hb4 hw4
      obtain ⟨⟨x0, x1, x2, xf⟩, z0, z1, z2, zf⟩ := HRUN4.out.cells hk1 hn1 hm1
      go_wp2_with fail
      obtain ⟨w6, hw6⟩ : ∃ w6, ((w4.setCell ⟨w.heap.size, 0, none⟩ (.int .i64 t1.kind)).setCell ⟨w.heap.size, 1, none⟩ (.int .i64 t1.num)).setCell ⟨w.heap.size, 2, none⟩ (.slice a1 t1.kids.length cap1) = w6 := ⟨_, rfl⟩
      obtain ⟨h1, h2, h3, h4⟩ := HRUN4.out.done HR.out hw6
      rw [hk1, hn1, hm1] at hw6
      rw [hw6]
      refine bodyPost_ret_by (v := tv t1 a1 cap1) (results_cell_row (p := 2) (ty := 24) (by kernel_rfl) _ _ w.heap.size 24 _ (0, 0) _ rfl h1 Tryz.underlying24 rfl (by kernel_rfl)) rfl ⟨t1, a1, cap1, rfl, h2, h3, .inr ⟨n', b, ?_, HD2.out, h4 HPA4.out⟩⟩
      rw [HD.out, HD1.out]
      rfl
end Go.Proofs.YtideicoifinnoaaGreatDoor
namespace Go.Proofs.YtideicoifinnoaaGreatDoor
open Go Go.RowKit
open Tp (T)

theorem atomD_at (L : List Lx.Tok) (n f : Nat) : Nt.atomD (f + 1) (ksAt L n) = match leafAt L n with
    | some k => .ok (leafT k) (ksAt L (n + 1))
    | none => if isTk L n 5 [40] = true then (match Nt.typeD f (ksAt L (n + 1)) with | .ok t q => if Nt.hd q 5 [41] then .ok t q.tail else .err q | .err e => .err e) else .err (ksAt L n) := by
  cases hx : L[n]? with
  | none =>
    rw [leafAt_none hx, ksAt_end hx, Nt.atomD]
    have : isTk L n 5 [40] = false := by unfold isTk; rw [hx]
    simp [this]
  | some x =>
    rw [leafAt_some hx, ksAt_cons hx, Nt.atomD]
    have : isTk L n 5 [40] = decide (Nt.keyT x = (5, [40])) := by rw [isTk_hd, ksAt_cons hx]; rfl
    rw [this]
    cases Nt.leafOf (Nt.keyT x) with
    | some k => rfl
    | none =>
      simp only [decide_eq_true_eq]
      by_cases h : Nt.keyT x = (5, [40])
      · rw [if_pos h, if_pos h]
        cases Nt.typeD f (ksAt L (n + 1)) <;> rfl
      · rw [if_neg h, if_neg h]
/-- What atom keeps while it runs. -/
structure AtmAt (rb : Nat) (w wr : World) : Prop where
  keep : PgKeep rb w wr
  res : wr.heap[w.heap.size]? = some (.cells #[.int .i64 0, .int .i64 0, .slice none 0 0] 24 (0, 0))
theorem AtmAt.step {rb : Nat} {w wr w2 : World} (h : AtmAt rb w wr) (hr : rb < w.heap.size) (hk : PgKeep rb wr w2) : AtmAt rb w w2 := ⟨h.keep.trans hk, (hk.rest _ hr (Array.getElem?_eq_some_iff.1 h.res).1).trans h.res⟩
theorem AtmAt.cells {rb : Nat} {w wr : World} (h : AtmAt rb w wr) : wr.cell? ⟨w.heap.size, 0, none⟩ = some (.int .i64 0) ∧ wr.cell? ⟨w.heap.size, 1, none⟩ = some (.int .i64 0) ∧ wr.cell? ⟨w.heap.size, 2, none⟩ = some (.slice none 0 0) ∧ ∀ j, wr.frozen? ⟨w.heap.size, j, none⟩ = false :=
  ⟨cell_box h.res rfl rfl, cell_box h.res rfl rfl, cell_box h.res rfl rfl, fun j => by simp [World.frozen?, h.res]⟩
theorem AtmAt.fin {rb : Nat} {w w2 w3 : World} (h : AtmAt rb w w2) (hr : rb < w.heap.size) {t : T} {a : Option Addr} {cap : Nat} (hw : ((w2.setCell ⟨w.heap.size, 0, none⟩ (.int .i64 t.kind)).setCell ⟨w.heap.size, 1, none⟩ (.int .i64 t.num)).setCell ⟨w.heap.size, 2, none⟩ (.slice a t.kids.length cap) = w3) :
    w3.heap[w.heap.size]? = some (.cells #[.int .i64 t.kind, .int .i64 t.num, .slice a t.kids.length cap] 24 (0, 0)) ∧ PgKeep rb w w3 ∧ (∀ {L : List Lx.Tok} {la : Option Addr} {lcap n : Nat} {bad : Int}, PgAt w2 rb L la lcap n bad → PgAt w3 rb L la lcap n bad) ∧
      (∀ {u : T} {a' : Option Addr} {cap' : Nat}, TyAt (fun b => w.heap.size < b ∧ b < w2.heap.size) w2 u a' cap' → TyAt (fun b => w.heap.size ≤ b ∧ b < w3.heap.size) w3 u a' cap') := by
  have hB := box_put (rb := rb) h.res hw
  exact ⟨hB.box, hB.keep hw h.keep (by omega) (Nat.le_refl _), fun hp => hB.at hw hp hr, fun hu => hB.ty (fun b hb => by omega) (fun b hb => ⟨by omega, by rw [hB.size]; exact hb.2⟩) hu⟩
theorem keep_below {rb : Nat} {w w' : World} {L : List Lx.Tok} {la : Option Addr} {lcap n : Nat} {bad : Int} (hp : PgAt w rb L la lcap n bad) (hb : Below w.heap.size w w') : PgKeep rb w w' := PgKeep.of_below hb (Nat.le_of_lt hp.lt)
theorem atm_start {rb : Nat} {w : World} (hr : rb < w.heap.size) : AtmAt rb w (w.alloc (.cells #[.int .i64 0, .int .i64 0, .slice none 0 0] 24)) :=
  ⟨PgKeep.of_below ((Below.refl _ _).alloc (Nat.le_refl _) _) (Nat.le_of_lt hr), World.alloc_heap_new w _⟩
set_option maxRecDepth 100000 in
set_option maxHeartbeats 4000000 in
theorem atom_of {rb : Nat} {L : List Lx.Tok} {la : Option Addr} {lcap f : Nat} (ht : TypeC rb L la lcap f) : AtomC rb L la lcap (f + 1) := by
  intro n w hpg hf
  have hr := hpg.lt
  have hat := atm_start hr
  have hpa := hpg.later ((Below.refl _ _).alloc (Nat.le_refl _) (.cells #[.int .i64 0, .int .i64 0, .slice none 0 0] 24))
  obtain ⟨D, hD⟩ : ∃ D, Nt.atomD (f + 1) (ksAt L n) = D := ⟨_, rfl⟩
  have hD' := hD
  rw [atomD_at] at hD'
  rw [hD]
  have HR := Lib.hid hr; have HTY := Lib.hid ht; have HF := Lib.hid hf; have HD := Lib.hid hD'; have HA0 := Lib.hid hat; have HP0 := Lib.hid hpa
  clear ht hpg hf hr hat hpa hD hD'
  go_enter Tryz.func61, Tryz.ntmps61
  have hmy := may_any HP0.out 2 Nt.sInt
  obtain ⟨q, hq⟩ : ∃ q, isTk L n 2 Nt.sInt = q := ⟨_, rfl⟩
  rw [hq] at hmy
  have HMY0 := Lib.hid hmy; have H0 := Lib.hid hq
  clear hmy hq
  go_wp2_with fail
  refine HMY0.out.mono ?_
  rintro e w1 ⟨rfl, hpa, hk⟩
  have HA1 := Lib.hid (HA0.out.step HR.out hk)
  have HP1 := Lib.hid hpa
  clear hpa hk
  cases q with
  | true =>
    have hp := HP1.out
    simp only [if_true] at hp
    have hlf : leafAt L n = some 1 := by
      unfold leafAt
      simp [(H0.out : isTk L n 2 Nt.sInt = _)]
    have hlc := leafG_any 1 w1
    have HLC := Lib.hid hlc; have HLF := Lib.hid hlf; have HPN := Lib.hid hp
    clear hlc hlf hp
    go_wp2_with fail
    refine HLC.out.mono ?_
    rintro e wl ⟨rfl, hbl⟩
    rw [show tv (leafT 1) none 0 = Value.agg #[.int .i64 1, .int .i64 0, .slice none 0 0] from rfl]
    have HAL := Lib.hid (HA1.out.step HR.out (keep_below HPN.out hbl))
    have HPL := Lib.hid (HPN.out.later hbl)
    clear hbl
    obtain ⟨x0, x1, x2, xf⟩ := HAL.out.cells
    go_wp2_with fail
    obtain ⟨w6, hw6⟩ : ∃ w6, ((wl.setCell ⟨w.heap.size, 0, none⟩ (.int .i64 1)).setCell ⟨w.heap.size, 1, none⟩ (.int .i64 0)).setCell ⟨w.heap.size, 2, none⟩ (.slice none 0 0) = w6 := ⟨_, rfl⟩
    rw [hw6]
    obtain ⟨h1, h2, h3, -⟩ := HAL.out.fin (t := leafT 1) (a := none) (cap := 0) HR.out hw6
    refine bodyPost_ret_by (v := tv (leafT 1) none 0) (results_cell_row (p := 2) (ty := 24) (by kernel_rfl) _ _ w.heap.size 24 _ (0, 0) _ rfl h1 Tryz.underlying24 rfl (by kernel_rfl)) rfl ⟨leafT 1, none, 0, rfl, leafT_at _ _ 1 (by omega), h2, .inl ⟨ksAt L (n + 1), n + 1, ?_, rfl, h3 HPL.out⟩⟩
    rw [← HD.out, HLF.out]
  | false =>
    have hp := HP1.out
    simp only [Bool.false_eq_true, if_false] at hp
    have HP1 := Lib.hid hp
    clear hp HMY0
    have hmy := may_any HP1.out 2 Nt.sBool
    obtain ⟨q, hq⟩ : ∃ q, isTk L n 2 Nt.sBool = q := ⟨_, rfl⟩
    rw [hq] at hmy
    have HMY1 := Lib.hid hmy; have H1 := Lib.hid hq
    clear hmy hq
    go_wp2_with fail
    refine HMY1.out.mono ?_
    rintro e w2 ⟨rfl, hpa, hk⟩
    have HA2 := Lib.hid (HA1.out.step HR.out hk)
    have HP2 := Lib.hid hpa
    clear hpa hk
    cases q with
    | true =>
      have hp := HP2.out
      simp only [if_true] at hp
      have hlf : leafAt L n = some 2 := by
        unfold leafAt
        simp [(H0.out : isTk L n 2 Nt.sInt = _), (H1.out : isTk L n 2 Nt.sBool = _)]
      have hlc := leafG_any 2 w2
      have HLC := Lib.hid hlc; have HLF := Lib.hid hlf; have HPN := Lib.hid hp
      clear hlc hlf hp
      go_wp2_with fail
      refine HLC.out.mono ?_
      rintro e wl ⟨rfl, hbl⟩
      rw [show tv (leafT 2) none 0 = Value.agg #[.int .i64 2, .int .i64 0, .slice none 0 0] from rfl]
      have HAL := Lib.hid (HA2.out.step HR.out (keep_below HPN.out hbl))
      have HPL := Lib.hid (HPN.out.later hbl)
      clear hbl
      obtain ⟨x0, x1, x2, xf⟩ := HAL.out.cells
      go_wp2_with fail
      obtain ⟨w6, hw6⟩ : ∃ w6, ((wl.setCell ⟨w.heap.size, 0, none⟩ (.int .i64 2)).setCell ⟨w.heap.size, 1, none⟩ (.int .i64 0)).setCell ⟨w.heap.size, 2, none⟩ (.slice none 0 0) = w6 := ⟨_, rfl⟩
      rw [hw6]
      obtain ⟨h1, h2, h3, -⟩ := HAL.out.fin (t := leafT 2) (a := none) (cap := 0) HR.out hw6
      refine bodyPost_ret_by (v := tv (leafT 2) none 0) (results_cell_row (p := 2) (ty := 24) (by kernel_rfl) _ _ w.heap.size 24 _ (0, 0) _ rfl h1 Tryz.underlying24 rfl (by kernel_rfl)) rfl ⟨leafT 2, none, 0, rfl, leafT_at _ _ 2 (by omega), h2, .inl ⟨ksAt L (n + 1), n + 1, ?_, rfl, h3 HPL.out⟩⟩
      rw [← HD.out, HLF.out]
    | false =>
      have hp := HP2.out
      simp only [Bool.false_eq_true, if_false] at hp
      have HP2 := Lib.hid hp
      clear hp HMY1
      have hmy := may_any HP2.out 2 Nt.sStr
      obtain ⟨q, hq⟩ : ∃ q, isTk L n 2 Nt.sStr = q := ⟨_, rfl⟩
      rw [hq] at hmy
      have HMY2 := Lib.hid hmy; have H2 := Lib.hid hq
      clear hmy hq
      go_wp2_with fail
      refine HMY2.out.mono ?_
      rintro e w3 ⟨rfl, hpa, hk⟩
      have HA3 := Lib.hid (HA2.out.step HR.out hk)
      have HP3 := Lib.hid hpa
      clear hpa hk
      cases q with
      | true =>
        have hp := HP3.out
        simp only [if_true] at hp
        have hlf : leafAt L n = some 3 := by
          unfold leafAt
          simp [(H0.out : isTk L n 2 Nt.sInt = _), (H1.out : isTk L n 2 Nt.sBool = _), (H2.out : isTk L n 2 Nt.sStr = _)]
        have hlc := leafG_any 3 w3
        have HLC := Lib.hid hlc; have HLF := Lib.hid hlf; have HPN := Lib.hid hp
        clear hlc hlf hp
        go_wp2_with fail
        refine HLC.out.mono ?_
        rintro e wl ⟨rfl, hbl⟩
        rw [show tv (leafT 3) none 0 = Value.agg #[.int .i64 3, .int .i64 0, .slice none 0 0] from rfl]
        have HAL := Lib.hid (HA3.out.step HR.out (keep_below HPN.out hbl))
        have HPL := Lib.hid (HPN.out.later hbl)
        clear hbl
        obtain ⟨x0, x1, x2, xf⟩ := HAL.out.cells
        go_wp2_with fail
        obtain ⟨w6, hw6⟩ : ∃ w6, ((wl.setCell ⟨w.heap.size, 0, none⟩ (.int .i64 3)).setCell ⟨w.heap.size, 1, none⟩ (.int .i64 0)).setCell ⟨w.heap.size, 2, none⟩ (.slice none 0 0) = w6 := ⟨_, rfl⟩
        rw [hw6]
        obtain ⟨h1, h2, h3, -⟩ := HAL.out.fin (t := leafT 3) (a := none) (cap := 0) HR.out hw6
        refine bodyPost_ret_by (v := tv (leafT 3) none 0) (results_cell_row (p := 2) (ty := 24) (by kernel_rfl) _ _ w.heap.size 24 _ (0, 0) _ rfl h1 Tryz.underlying24 rfl (by kernel_rfl)) rfl ⟨leafT 3, none, 0, rfl, leafT_at _ _ 3 (by omega), h2, .inl ⟨ksAt L (n + 1), n + 1, ?_, rfl, h3 HPL.out⟩⟩
        rw [← HD.out, HLF.out]
      | false =>
        have hp := HP3.out
        simp only [Bool.false_eq_true, if_false] at hp
        have HP3 := Lib.hid hp
        clear hp HMY2
        have hmy := may_any HP3.out 2 Nt.sUnit
        obtain ⟨q, hq⟩ : ∃ q, isTk L n 2 Nt.sUnit = q := ⟨_, rfl⟩
        rw [hq] at hmy
        have HMY3 := Lib.hid hmy; have H3 := Lib.hid hq
        clear hmy hq
        go_wp2_with fail
        refine HMY3.out.mono ?_
        rintro e w4 ⟨rfl, hpa, hk⟩
        have HA4 := Lib.hid (HA3.out.step HR.out hk)
        have HP4 := Lib.hid hpa
        clear hpa hk
        cases q with
        | true =>
          have hp := HP4.out
          simp only [if_true] at hp
          have hlf : leafAt L n = some 4 := by
            unfold leafAt
            simp [(H0.out : isTk L n 2 Nt.sInt = _), (H1.out : isTk L n 2 Nt.sBool = _), (H2.out : isTk L n 2 Nt.sStr = _), (H3.out : isTk L n 2 Nt.sUnit = _)]
          have hlc := leafG_any 4 w4
          have HLC := Lib.hid hlc; have HLF := Lib.hid hlf; have HPN := Lib.hid hp
          clear hlc hlf hp
          go_wp2_with fail
          refine HLC.out.mono ?_
          rintro e wl ⟨rfl, hbl⟩
          rw [show tv (leafT 4) none 0 = Value.agg #[.int .i64 4, .int .i64 0, .slice none 0 0] from rfl]
          have HAL := Lib.hid (HA4.out.step HR.out (keep_below HPN.out hbl))
          have HPL := Lib.hid (HPN.out.later hbl)
          clear hbl
          obtain ⟨x0, x1, x2, xf⟩ := HAL.out.cells
          go_wp2_with fail
          obtain ⟨w6, hw6⟩ : ∃ w6, ((wl.setCell ⟨w.heap.size, 0, none⟩ (.int .i64 4)).setCell ⟨w.heap.size, 1, none⟩ (.int .i64 0)).setCell ⟨w.heap.size, 2, none⟩ (.slice none 0 0) = w6 := ⟨_, rfl⟩
          rw [hw6]
          obtain ⟨h1, h2, h3, -⟩ := HAL.out.fin (t := leafT 4) (a := none) (cap := 0) HR.out hw6
          refine bodyPost_ret_by (v := tv (leafT 4) none 0) (results_cell_row (p := 2) (ty := 24) (by kernel_rfl) _ _ w.heap.size 24 _ (0, 0) _ rfl h1 Tryz.underlying24 rfl (by kernel_rfl)) rfl ⟨leafT 4, none, 0, rfl, leafT_at _ _ 4 (by omega), h2, .inl ⟨ksAt L (n + 1), n + 1, ?_, rfl, h3 HPL.out⟩⟩
          rw [← HD.out, HLF.out]
        | false =>
          have hp := HP4.out
          simp only [Bool.false_eq_true, if_false] at hp
          have HP4 := Lib.hid hp
          clear hp HMY3
          have hmy := may_any HP4.out 5 Nt.sDyn
          obtain ⟨q, hq⟩ : ∃ q, isTk L n 5 Nt.sDyn = q := ⟨_, rfl⟩
          rw [hq] at hmy
          have HMY4 := Lib.hid hmy; have H4 := Lib.hid hq
          clear hmy hq
          go_wp2_with fail
          refine HMY4.out.mono ?_
          rintro e w5 ⟨rfl, hpa, hk⟩
          have HA5 := Lib.hid (HA4.out.step HR.out hk)
          have HP5 := Lib.hid hpa
          clear hpa hk
          cases q with
          | true =>
            have hp := HP5.out
            simp only [if_true] at hp
            have hlf : leafAt L n = some 5 := by
              unfold leafAt
              simp [(H0.out : isTk L n 2 Nt.sInt = _), (H1.out : isTk L n 2 Nt.sBool = _), (H2.out : isTk L n 2 Nt.sStr = _), (H3.out : isTk L n 2 Nt.sUnit = _), (H4.out : isTk L n 5 Nt.sDyn = _)]
            have hlc := leafG_any 5 w5
            have HLC := Lib.hid hlc; have HLF := Lib.hid hlf; have HPN := Lib.hid hp
            clear hlc hlf hp
            go_wp2_with fail
            refine HLC.out.mono ?_
            rintro e wl ⟨rfl, hbl⟩
            rw [show tv (leafT 5) none 0 = Value.agg #[.int .i64 5, .int .i64 0, .slice none 0 0] from rfl]
            have HAL := Lib.hid (HA5.out.step HR.out (keep_below HPN.out hbl))
            have HPL := Lib.hid (HPN.out.later hbl)
            clear hbl
            obtain ⟨x0, x1, x2, xf⟩ := HAL.out.cells
            go_wp2_with fail
            obtain ⟨w6, hw6⟩ : ∃ w6, ((wl.setCell ⟨w.heap.size, 0, none⟩ (.int .i64 5)).setCell ⟨w.heap.size, 1, none⟩ (.int .i64 0)).setCell ⟨w.heap.size, 2, none⟩ (.slice none 0 0) = w6 := ⟨_, rfl⟩
            rw [hw6]
            obtain ⟨h1, h2, h3, -⟩ := HAL.out.fin (t := leafT 5) (a := none) (cap := 0) HR.out hw6
            refine bodyPost_ret_by (v := tv (leafT 5) none 0) (results_cell_row (p := 2) (ty := 24) (by kernel_rfl) _ _ w.heap.size 24 _ (0, 0) _ rfl h1 Tryz.underlying24 rfl (by kernel_rfl)) rfl ⟨leafT 5, none, 0, rfl, leafT_at _ _ 5 (by omega), h2, .inl ⟨ksAt L (n + 1), n + 1, ?_, rfl, h3 HPL.out⟩⟩
            rw [← HD.out, HLF.out]
          | false =>
            have hp := HP5.out
            simp only [Bool.false_eq_true, if_false] at hp
            have HP5 := Lib.hid hp
            clear hp HMY4
            have hlf : leafAt L n = none := by
              unfold leafAt
              simp [(H0.out : isTk L n 2 Nt.sInt = _), (H1.out : isTk L n 2 Nt.sBool = _), (H2.out : isTk L n 2 Nt.sStr = _), (H3.out : isTk L n 2 Nt.sUnit = _), (H4.out : isTk L n 5 Nt.sDyn = _)]
            have HLF := Lib.hid hlf
            clear hlf
            have hmy := may_any HP5.out 5 [40]
            obtain ⟨q, hq⟩ : ∃ q, isTk L n 5 [40] = q := ⟨_, rfl⟩
            rw [hq] at hmy
            have HMY5 := Lib.hid hmy; have H5 := Lib.hid hq
            clear hmy hq
            go_wp2_with fail
            refine HMY5.out.mono ?_
            rintro e w6 ⟨rfl, hpa, hk⟩
            have HA6 := Lib.hid (HA5.out.step HR.out hk)
            have HP6 := Lib.hid hpa
            clear hpa hk
            cases q with
            | true =>
              have hp := HP6.out
              simp only [if_true] at hp
              have hlt := isTk_lt H5.out
              have htc := HTY.out (n + 1) w6 hp (by have := HF.out; omega)
              have HTC := Lib.hid htc; have HPN := Lib.hid hp
              clear htc hp hlt
              go_wp2_with fail
              refine HTC.out.mono ?_
              rintro e w7 ⟨t, a, cap, rfl, hty, hk, hd⟩
              have hal : Below w7.heap.size w7 (w7.alloc (.cells #[.int .i64 t.kind, .int .i64 t.num, .slice a t.kids.length cap] 24)) := (Below.refl _ _).alloc (Nat.le_refl _) _
              have hnw := World.alloc_heap_new w7 (.cells #[.int .i64 t.kind, .int .i64 t.num, .slice a t.kids.length cap] 24)
              obtain ⟨w8, hw8⟩ : ∃ w8, w7.alloc (.cells #[.int .i64 t.kind, .int .i64 t.num, .slice a t.kids.length cap] 24) = w8 := ⟨_, rfl⟩
              rw [hw8] at hal hnw
              have hkb : rb ≤ w7.heap.size := by have := HPN.out.lt; have := hk.low.size; omega
              have ha8 := HA6.out.step HR.out (hk.trans (PgKeep.of_below hal hkb))
              have hty8 := hty.below hal (fun b h => h.2) (fun b h => (show w.heap.size < b ∧ b < w7.heap.size from ⟨by have := (Array.getElem?_eq_some_iff.1 HA6.out.res).1; omega, h.2⟩))
              have hd8 : (∃ r n', Nt.typeD f (ksAt L (n + 1)) = .ok t r ∧ r = ksAt L n' ∧ PgAt w8 rb L la lcap n' (-1)) ∨ (∃ n' b : Nat, Nt.typeD f (ksAt L (n + 1)) = .err (ksAt L b) ∧ b ≤ L.length ∧ PgAt w8 rb L la lcap n' (b : Int)) := by
                rcases hd with ⟨r, n', h1, h2, h3⟩ | ⟨n', b, h1, h2, h3⟩
                · exact .inl ⟨r, n', h1, h2, h3.later hal⟩
                · exact .inr ⟨n', b, h1, h2, h3.later hal⟩
              rw [show tv t a cap = Value.agg #[.int .i64 t.kind, .int .i64 t.num, .slice a t.kids.length cap] from rfl]
              obtain ⟨k0, hk0⟩ : ∃ q, t.kind = q := ⟨_, rfl⟩
              obtain ⟨n0, hn0⟩ : ∃ q, t.num = q := ⟨_, rfl⟩
              obtain ⟨m0, hm0⟩ : ∃ q, t.kids.length = q := ⟨_, rfl⟩
              rw [hk0, hn0, hm0] at hw8 hnw
              rw [hk0, hn0, hm0]
              have HW8 := Lib.hid hw8; have HA8 := Lib.hid ha8; have HTY8 := Lib.hid hty8; have HNW := Lib.hid hnw; have HS := Lib.hid (show w8.heap.size = w7.heap.size + 1 by rw [← hw8]; simp)
              have HK0 := Lib.hid hk0; have HN0 := Lib.hid hn0; have HM0 := Lib.hid hm0; have HRB7 := Lib.hid (show rb < w7.heap.size by have := HPN.out.lt; have := hk.low.size; omega)
              clear hal hnw hw8 hkb ha8 hty8 hd hty hk hk0 hn0 hm0
              go_upto_region 13 with fail
              rw [HW8.out]
              rcases hd8 with ⟨r, n', hd1, rfl, hp8⟩ | ⟨n', b, hd1, hle, hp8⟩
              · have hmy := may_any hp8 5 [41]
                obtain ⟨q, hq⟩ : ∃ q, isTk L n' 5 [41] = q := ⟨_, rfl⟩
                rw [hq] at hmy
                have HMY8 := Lib.hid hmy; have HQ := Lib.hid hq; have HD1 := Lib.hid hd1
                clear hmy hq hp8 hd1
                go_wp2_with fail
                refine HMY8.out.mono ?_
                rintro e w9 ⟨rfl, hpa, hk⟩
                have HA9 := Lib.hid (HA8.out.step HR.out hk)
                have hty9 := ty_keep hk (fun b hb => ⟨by have := HR.out; omega, by have := HS.out; omega⟩) (fun b hb => (show w.heap.size < b ∧ b < w9.heap.size from ⟨hb.1, by have := HS.out; have := hk.low.size; omega⟩)) HTY8.out
                have hnw9 := (hk.rest w7.heap.size HRB7.out (by have := HS.out; omega)).trans HNW.out
                have HP9 := Lib.hid hpa; have HTY9 := Lib.hid hty9
                clear hpa hk hty9
                obtain ⟨x0, x1, x2, xf⟩ := HA9.out.cells
                cases q with
                | true =>
                  have y0 : w9.cell? ⟨w7.heap.size, 0, none⟩ = some (.int .i64 k0) := cell_box hnw9 rfl rfl
                  have y1 : w9.cell? ⟨w7.heap.size, 1, none⟩ = some (.int .i64 n0) := cell_box hnw9 rfl rfl
                  have y2 : w9.cell? ⟨w7.heap.size, 2, none⟩ = some (.slice a m0 cap) := cell_box hnw9 rfl rfl
                  clear hnw9
                  go_wp2_with fail
                  obtain ⟨wz, hwz⟩ : ∃ wz, ((w9.setCell ⟨w.heap.size, 0, none⟩ (.int .i64 t.kind)).setCell ⟨w.heap.size, 1, none⟩ (.int .i64 t.num)).setCell ⟨w.heap.size, 2, none⟩ (.slice a t.kids.length cap) = wz := ⟨_, rfl⟩
                  obtain ⟨h1, h2, h3, h4⟩ := HA9.out.fin HR.out hwz
                  rw [HK0.out, HN0.out, HM0.out] at hwz
                  rw [hwz]
                  have hp := HP9.out
                  simp only [if_true] at hp
                  refine bodyPost_ret_by (v := tv t a cap) (results_cell_row (p := 2) (ty := 24) (by kernel_rfl) _ _ w.heap.size 24 _ (0, 0) _ rfl h1 Tryz.underlying24 rfl (by kernel_rfl)) rfl ⟨t, a, cap, rfl, h4 HTY9.out, h2, .inl ⟨ksAt L (n' + 1), n' + 1, ?_, rfl, h3 hp⟩⟩
                  rw [← HD.out, HLF.out]
                  simp only [H5.out, if_true, HD1.out]
                  rw [← isTk_hd, HQ.out, if_pos rfl, ksAt_tail HQ.out]
                  rfl
                | false =>
                  have hp := HP9.out
                  simp only [Bool.false_eq_true, if_false] at hp
                  have HPZ := Lib.hid hp
                  clear hp hnw9
                  obtain ⟨c0, c1, c2⟩ := HPZ.out.cells
                  have fr : ∀ j, w9.frozen? ⟨rb, j, none⟩ = false := fun j => by simp [World.frozen?, HPZ.out.heap]
                  have hne : w.heap.size ≠ rb := by have := HR.out; omega
                  go_wp2_with fail
                  obtain ⟨w7z, hw7z⟩ : ∃ w7z, w9.setCell ⟨rb, 2, none⟩ (.int .i64 (n' : Int)) = w7z := ⟨_, rfl⟩
                  rw [hw7z]
                  have hpw : PgAt w7z rb L la lcap n' (n' : Int) := by rw [← hw7z]; exact HPZ.out.wrong
                  have haw : AtmAt rb w w7z := HA9.out.step HR.out (by rw [← hw7z]; exact PgKeep.set)
                  obtain ⟨w8z, hw8z⟩ : ∃ w8z, ((w7z.setCell ⟨w.heap.size, 0, none⟩ (.int .i64 0)).setCell ⟨w.heap.size, 1, none⟩ (.int .i64 0)).setCell ⟨w.heap.size, 2, none⟩ (.slice none 0 0) = w8z := ⟨_, rfl⟩
                  rw [hw8z]
                  obtain ⟨h1, h2, h3, -⟩ := (haw).fin (t := Nt.noT) (a := none) (cap := 0) HR.out hw8z
                  refine bodyPost_ret_by (v := tv Nt.noT none 0) (results_cell_row (p := 2) (ty := 24) (by kernel_rfl) _ _ w.heap.size 24 _ (0, 0) _ rfl h1 Tryz.underlying24 rfl (by kernel_rfl)) rfl ⟨Nt.noT, none, 0, rfl, noT_at _ _, h2, .inr ⟨n', n', ?_, hpw.fit, h3 (hpw)⟩⟩
                  rw [← HD.out, HLF.out]
                  simp only [H5.out, if_true, HD1.out]
                  rw [← isTk_hd, HQ.out, if_neg (by simp)]
              · have hmy := may_bad hp8 (by omega) 5 [41]
                have HMY8 := Lib.hid hmy; have HD1 := Lib.hid hd1; have HP8 := Lib.hid hp8; have HLE := Lib.hid hle
                clear hmy hp8 hd1 hle
                go_wp2_with fail
                refine HMY8.out.mono ?_
                rintro e w9 ⟨rfl, hw9⟩
                have hb9 : Below w8.heap.size w8 w9 := by rw [hw9]; exact (Below.refl _ _).drew
                have HA9 := Lib.hid (HA8.out.step HR.out (keep_below HP8.out hb9)); have HPZ := Lib.hid (HP8.out.later hb9)
                clear hb9 hw9
                obtain ⟨x0, x1, x2, xf⟩ := HA9.out.cells
                obtain ⟨c0, c1, c2⟩ := HPZ.out.cells
                have hnb : ¬ (b : Int) < 0 := by omega
                go_wp2_with fail
                obtain ⟨w8z, hw8z⟩ : ∃ w8z, ((w9.setCell ⟨w.heap.size, 0, none⟩ (.int .i64 0)).setCell ⟨w.heap.size, 1, none⟩ (.int .i64 0)).setCell ⟨w.heap.size, 2, none⟩ (.slice none 0 0) = w8z := ⟨_, rfl⟩
                rw [hw8z]
                obtain ⟨h1, h2, h3, -⟩ := (HA9.out).fin (t := Nt.noT) (a := none) (cap := 0) HR.out hw8z
                refine bodyPost_ret_by (v := tv Nt.noT none 0) (results_cell_row (p := 2) (ty := 24) (by kernel_rfl) _ _ w.heap.size 24 _ (0, 0) _ rfl h1 Tryz.underlying24 rfl (by kernel_rfl)) rfl ⟨Nt.noT, none, 0, rfl, noT_at _ _, h2, .inr ⟨n', b, ?_, HLE.out, h3 (HPZ.out)⟩⟩
                rw [← HD.out, HLF.out]
                simp only [H5.out, if_true, HD1.out]
            | false =>
              have hp := HP6.out
              simp only [Bool.false_eq_true, if_false] at hp
              have HPN := Lib.hid hp
              clear hp
              obtain ⟨x0, x1, x2, xf⟩ := HA6.out.cells
              obtain ⟨c0, c1, c2⟩ := HPN.out.cells
              have fr : ∀ j, w6.frozen? ⟨rb, j, none⟩ = false := fun j => by simp [World.frozen?, HPN.out.heap]
              have hne : w.heap.size ≠ rb := by have := HR.out; omega
              go_wp2_with fail
              obtain ⟨w7, hw7⟩ : ∃ w7, w6.setCell ⟨rb, 2, none⟩ (.int .i64 (n : Int)) = w7 := ⟨_, rfl⟩
              rw [hw7]
              have hpw : PgAt w7 rb L la lcap n (n : Int) := by rw [← hw7]; exact HPN.out.wrong
              have haw : AtmAt rb w w7 := HA6.out.step HR.out (by rw [← hw7]; exact PgKeep.set)
              obtain ⟨w8, hw8⟩ : ∃ w8, ((w7.setCell ⟨w.heap.size, 0, none⟩ (.int .i64 0)).setCell ⟨w.heap.size, 1, none⟩ (.int .i64 0)).setCell ⟨w.heap.size, 2, none⟩ (.slice none 0 0) = w8 := ⟨_, rfl⟩
              rw [hw8]
              obtain ⟨h1, h2, h3, -⟩ := (haw).fin (t := Nt.noT) (a := none) (cap := 0) HR.out hw8
              refine bodyPost_ret_by (v := tv Nt.noT none 0) (results_cell_row (p := 2) (ty := 24) (by kernel_rfl) _ _ w.heap.size 24 _ (0, 0) _ rfl h1 Tryz.underlying24 rfl (by kernel_rfl)) rfl ⟨Nt.noT, none, 0, rfl, noT_at _ _, h2, .inr ⟨n, n, ?_, hpw.fit, h3 (hpw)⟩⟩
              rw [← HD.out, HLF.out]
              simp only [H5.out, Bool.false_eq_true, if_false]
end Go.Proofs.YtideicoifinnoaaGreatDoor
namespace Go.Proofs.YtideicoifinnoaaGreatDoor
open Go Go.RowKit
open Tp (T)

namespace Nt
def pairD (f : Nat) : Rd → Rd
  | .err e => .err e
  | .ok t r => if hd r 5 [42] then (match (atomD f r.tail).post with | .err e => .err e | .ok u q => .ok (.mk 7 0 [t, u]) q) else .ok t r
def arrD (f : Nat) : Rd → Rd
  | .err e => .err e
  | .ok t r => if hd r 5 [45, 62] then (match typeD f r.tail with | .err e => .err e | .ok v p => .ok (.mk 9 0 [t, v]) p) else .ok t r
theorem typeD_at (f : Nat) (ks : List Tk) : typeD (f + 1) ks = arrD f (pairD f (atomD (f + 1) ks).post) := by
  rw [typeD]
  cases (atomD (f + 1) ks).post with
  | err e => rfl
  | ok t r =>
    simp only [pairD]
    cases hs : hd r 5 [42] with
    | true =>
      simp only [if_true]
      cases (atomD f r.tail).post with
      | err e => rfl
      | ok u q => simp only [arrD]; rfl
    | false => simp only [Bool.false_eq_true, if_false, arrD]; rfl
theorem post_lt {g : Nat} {ks : List Tk} {t : T} {r : List Tk} (h : (atomD g ks).post = .ok t r) : r.length < ks.length := by
  cases he : atomD g ks with
  | err e => rw [he] at h; cases h
  | ok t' r' =>
    rw [he] at h
    simp only [Rd.post] at h
    injection h with _ h
    have h1 := (atomD_lt g).1 _ _ _ he
    have h2 := lists_le r' t'
    rw [← h]
    omega
end Nt
/-- Where Type stands: its type's box, what is read. -/
def PgSt (rb : Nat) (w : World) (L : List Lx.Tok) (la : Option Addr) (lcap f c3 : Nat) (D : Nt.Rd) (wr : World) : Prop :=
  ∃ t a cap, PgRun rb w wr c3 t a cap ∧ ((∃ n, D = .ok t (ksAt L n) ∧ L.length - n < f ∧ PgAt wr rb L la lcap n (-1)) ∨ (∃ n b : Nat, D = .err (ksAt L b) ∧ b ≤ L.length ∧ PgAt wr rb L la lcap n (b : Int)))
/-- The same behind a look at the next token. -/
def PgMid (rb : Nat) (w : World) (L : List Lx.Tok) (la : Option Addr) (lcap f c3 : Nat) (D : Nt.Rd) (s : List UInt8) (q : Bool) (wr : World) : Prop :=
  ∃ t a cap, PgRun rb w wr c3 t a cap ∧ ((∃ n, D = .ok t (ksAt L n) ∧ L.length - n < f ∧ isTk L n 5 s = q ∧ PgAt wr rb L la lcap (if q = true then n + 1 else n) (-1)) ∨ (q = false ∧ ∃ n b : Nat, D = .err (ksAt L b) ∧ b ≤ L.length ∧ PgAt wr rb L la lcap n (b : Int)))
set_option maxRecDepth 100000 in
set_option maxHeartbeats 8000000 in
theorem type_of {rb : Nat} {L : List Lx.Tok} {la : Option Addr} {lcap f : Nat} (hp1 : PostC rb L la lcap (f + 1)) (hp0 : PostC rb L la lcap f) (ht : TypeC rb L la lcap f) : TypeC rb L la lcap (f + 1) := by
  intro n w hpg hf
  have hr := hpg.lt
  have hpo := hp1 n _ (hpg.later ((Below.refl _ _).alloc (Nat.le_refl _) (.cells #[.int .i64 0, .int .i64 0, .slice none 0 0] 24))) hf
  have hlt : ∀ t r, (Nt.atomD (f + 1) (ksAt L n)).post = .ok t r → r.length < L.length - n := fun t r h => by have := Nt.post_lt h; rwa [ksAt_len] at this
  rw [Nt.typeD_at]
  generalize hD : (Nt.atomD (f + 1) (ksAt L n)).post = D at hpo hlt ⊢
  have HR := Lib.hid hr; have HPO := Lib.hid hpo; have HP0 := Lib.hid hp0; have HTC := Lib.hid ht; have HF := Lib.hid hf; have HLT := Lib.hid hlt
  clear hp1 hp0 ht hpg hf hr hpo hlt hD
  go_enter Tryz.func28, Tryz.ntmps28
  go_wp2_with fail
  refine HPO.out.mono ?_
  rintro e w2 ⟨t, a, cap, rfl, hty, hk, hd⟩
  obtain ⟨w3, hw3⟩ : ∃ w3, w2.alloc (.cells #[.int .i64 t.kind, .int .i64 t.num, .slice a t.kids.length cap] 24) = w3 := ⟨_, rfl⟩
  obtain ⟨hrun, hk23⟩ := pgRun_start HR.out hk hty hw3
  have hst : PgSt rb w L la lcap f w2.heap.size D w3 := by
    have hb : Below w2.heap.size w2 w3 := by rw [← hw3]; exact (Below.refl _ _).alloc (Nat.le_refl _) _
    refine ⟨t, a, cap, hrun, ?_⟩
    rcases hd with ⟨r, n', h1, h2, h3⟩ | ⟨n', b, h1, h2, h3⟩
    · refine .inl ⟨n', by rw [h1, h2], ?_, h3.later hb⟩
      have h4 := HLT.out t r h1
      rw [h2, ksAt_len] at h4
      have := HF.out
      omega
    · exact .inr ⟨n', b, h1, h2, h3.later hb⟩
  rw [show tv t a cap = Value.agg #[.int .i64 t.kind, .int .i64 t.num, .slice a t.kids.length cap] from rfl]
  have HW3 := Lib.hid hw3; have HST := Lib.hid hst; have HC3 := Lib.hid (Nat.lt_of_lt_of_le HR.out (by have := hrun.far; exact Nat.le_of_lt this))
  clear hty hk hd hk23 hrun hw3 hst HPO
  go_upto_region 2 with fail
  rw [HW3.out]
  clear HW3
  generalize w2.heap.size = c3 at HST HC3 ⊢
  go_cut [7] (fun v wx => ∃ q, v = .bool q ∧ PgMid rb w L la lcap f c3 D [42] q wx)
  case first =>
    obtain ⟨t1, a1, cap1, hrun, ⟨n', h1, h2, h3⟩ | ⟨n', b, h1, h2, h3⟩⟩ := HST.out
    · have hmy := may_any h3 5 [42]
      have HMY := Lib.hid hmy; have HRUN := Lib.hid hrun; have HD1 := Lib.hid h1; have HL := Lib.hid h2
      clear hmy hrun h1 h2 h3
      go_wp2_with fail
      refine HMY.out.mono ?_
      rintro e w4 ⟨rfl, hpa4, hk4⟩
      have HRUN4 := Lib.hid (HRUN.out.step HR.out hk4); have HPA4 := Lib.hid hpa4
      clear hpa4 hk4
      go_wp2_with fail
      go_meet
      exact ⟨_, rfl, t1, a1, cap1, HRUN4.out, .inl ⟨n', HD1.out, HL.out, rfl, HPA4.out⟩⟩
    · have hmy := may_bad h3 (by omega) 5 [42]
      have HMY := Lib.hid hmy; have HRUN := Lib.hid hrun; have HD1 := Lib.hid h1; have HL := Lib.hid h2; have HPA := Lib.hid h3
      clear hmy hrun h1 h2 h3
      go_wp2_with fail
      refine HMY.out.mono ?_
      rintro e w4 ⟨rfl, hw4⟩
      have hb4 : Below w3.heap.size w3 w4 := by rw [hw4]; exact (Below.refl _ _).drew
      have HRUN4 := Lib.hid (HRUN.out.step HR.out (keep_below HPA.out hb4)); have HPA4 := Lib.hid (HPA.out.later hb4)
      clear hb4 hw4
      go_wp2_with fail
      go_meet
      exact ⟨false, rfl, t1, a1, cap1, HRUN4.out, .inr ⟨rfl, n', b, HD1.out, HL.out, HPA4.out⟩⟩
  case rest =>
    obtain ⟨q, rfl, hmid⟩ := hcut
    have HMID := Lib.hid hmid
    clear hmid HST
    go_upto_if 7 with fail
    go_cut [] (fun wx => PgSt rb w L la lcap f c3 (Nt.pairD f D) wx)
    case first =>
      cases q with
      | false =>
        go_wp2_with fail
        go_meet
        obtain ⟨t1, a1, cap1, hrun, ⟨n', h1, h2, h3, h4⟩ | ⟨-, n', b, h1, h2, h3⟩⟩ := HMID.out
        · refine ⟨t1, a1, cap1, hrun, .inl ⟨n', ?_, h2, h4⟩⟩
          rw [h1]
          simp only [Nt.pairD, ← isTk_hd, h3, Bool.false_eq_true, if_false]
        · exact ⟨t1, a1, cap1, hrun, .inr ⟨n', b, by rw [h1]; rfl, h2, h3⟩⟩
      | true =>
        obtain ⟨t1, a1, cap1, hrun, ⟨n', h1, h2, h3, h4⟩ | ⟨h0, -⟩⟩ := HMID.out
        case inr => cases h0
        simp only [if_true] at h4
        obtain ⟨k1, hk1⟩ : ∃ q, t1.kind = q := ⟨_, rfl⟩
        obtain ⟨n1, hn1⟩ : ∃ q, t1.num = q := ⟨_, rfl⟩
        obtain ⟨m1, hm1⟩ : ∃ q, t1.kids.length = q := ⟨_, rfl⟩
        have hpd := h4.later (Below.refl _ _).drew
        have hcl := HP0.out (n' + 1) _ hpd (by omega)
        have hrd := hrun.step HR.out (keep_below h4 (Below.refl _ _).drew)
        have hte : tv t1 a1 cap1 = Value.agg #[.int .i64 k1, .int .i64 n1, .slice a1 m1 cap1] := by unfold tv; rw [hk1, hn1, hm1]
        have hdl := fun u q (h : (Nt.atomD f (ksAt L (n' + 1))).post = Nt.Rd.ok u q) => Nt.post_lt h
        have HCL := Lib.hid hcl; have HRD := Lib.hid hrd; have HTE := Lib.hid hte; have HD1 := Lib.hid h1; have HIS := Lib.hid h3; have HFU := Lib.hid h2; have HK1 := Lib.hid hk1; have HN1 := Lib.hid hn1; have HM1 := Lib.hid hm1; have HDL := Lib.hid hdl
        clear hpd hcl hte h1 h2 h3 h4 hrun hdl
        obtain ⟨⟨x0, x1, x2, xf⟩, -⟩ := hrd.cells hk1 hn1 hm1
        clear hk1 hn1 hm1
        clear hrd
        go_upto_region 3 with fail
        go_region_law (first
          | (go_simp
             go_at_call 48
             refine HCL.out.mono ?_
             rintro e w6 ⟨u, b6, cap6, rfl, hty6, hk6, hd6⟩
             dsimp only
             have hrun6 := HRD.out.step HR.out hk6
             have hty6' := hty6.moved (G' := fun b => w.heap.size < b ∧ b ≠ c3 ∧ b < w6.heap.size) (fun _ _ _ => rfl) (fun b hb => by have h7 := HRD.out.lt; have h8 := HRD.out.far; have h9 := hb.1; exact ⟨by omega, by omega, hb.2⟩)
             have htw := twoG_any (fun b => w.heap.size < b ∧ b ≠ c3 ∧ b < w6.heap.size) 7 (by unfold I64; omega) t1 a1 cap1 u b6 cap6 w6 (fun b h => h.2.2) hrun6.ty hty6'
             rw [HTE.out] at htw
             have HTW := Lib.hid htw
             have HRUN6 := Lib.hid hrun6
             have HD6 := Lib.hid hd6
             obtain ⟨⟨y0, y1, y2, yf⟩, -⟩ := hrun6.cells HK1.out HN1.out HM1.out
             clear hty6 hk6 hd6 hrun6 hty6' htw)
          | (go_simp
             go_at_call 50
             refine HTW.out.mono ?_
             rintro e w7 ⟨a7, cap7, rfl, hty7, hb7⟩
             rw [show tv (T.mk 7 0 [t1, u]) a7 cap7 = Value.agg #[.int .i64 7, .int .i64 0, .slice a7 2 cap7] from rfl]
             dsimp only
             have hrun7 := HRUN6.out.step HR.out (PgKeep.of_below hb7 (Nat.le_of_lt (Nat.lt_of_lt_of_le HR.out HRUN6.out.keep.low.size)))
             have HRUN7 := Lib.hid hrun7; have HTY7 := Lib.hid hty7; have HB7 := Lib.hid hb7
             obtain ⟨⟨z0, z1, z2, zf⟩, -⟩ := hrun7.cells HK1.out HN1.out HM1.out
             clear hty7 hb7 hrun7))
        all_goals
          go_wp2_with fail
          go_meet
          obtain ⟨w8, hw8⟩ : ∃ w8, ((w7.setCell ⟨c3, 0, none⟩ (.int .i64 7)).setCell ⟨c3, 1, none⟩ (.int .i64 0)).setCell ⟨c3, 2, none⟩ (.slice a7 2 cap7) = w8 := ⟨_, rfl⟩
          rw [hw8]
          have hB := box_put (rb := rb) (t := .mk 7 0 [t1, u]) HRUN7.out.box hw8
          have hsz := HB7.out.size
          have h6l := HRUN6.out.lt
          have h6f := HRUN6.out.far
          have hrun8 := HRUN7.out.put (t2 := .mk 7 0 [t1, u]) HR.out (HTY7.out.moved (fun _ _ _ => rfl) (fun b hb => by
            rcases hb with hb | hb
            · exact ⟨hb.1, hb.2.1, by omega⟩
            · exact ⟨by omega, by omega, hb.2⟩)) hw8
          refine ⟨_, a7, cap7, hrun8, ?_⟩
          have hhd : Nt.hd (ksAt L n') 5 [42] = true := by rw [← isTk_hd]; exact HIS.out
          have htl : (ksAt L n').tail = ksAt L (n' + 1) := by rw [ksAt_tail HIS.out]; rfl
          rcases HD6.out with ⟨r6, n6, e1, e2, e3⟩ | ⟨n6, b, e1, e2, e3⟩
          · subst e2
            refine .inl ⟨n6, ?_, ?_, hB.at hw8 (e3.later HB7.out) HC3.out⟩
            · rw [HD1.out]
              simp only [Nt.pairD, hhd, if_true, htl, e1]
            · have h9 := HDL.out _ _ e1
              rw [ksAt_len, ksAt_len] at h9
              have := HFU.out
              omega
          · refine .inr ⟨n6, b, ?_, e2, hB.at hw8 (e3.later HB7.out) HC3.out⟩
            rw [HD1.out]
            simp only [Nt.pairD, hhd, if_true, htl, e1]
    case rest =>
      have HST := Lib.hid hcut
      clear hcut HMID
      go_upto_region 4 with fail
      go_cut [13] (fun v wx => ∃ q, v = .bool q ∧ PgMid rb w L la lcap f c3 (Nt.pairD f D) [45, 62] q wx)
      case first =>
        obtain ⟨t1, a1, cap1, hrun, ⟨n', h1, h2, h3⟩ | ⟨n', b, h1, h2, h3⟩⟩ := HST.out
        · have hmy := may_any h3 5 [45, 62]
          have HMY := Lib.hid hmy; have HRUN := Lib.hid hrun; have HD1 := Lib.hid h1; have HL := Lib.hid h2
          clear hmy hrun h1 h2 h3
          go_wp2_with fail
          refine HMY.out.mono ?_
          rintro e w4 ⟨rfl, hpa4, hk4⟩
          have HRUN4 := Lib.hid (HRUN.out.step HR.out hk4); have HPA4 := Lib.hid hpa4
          clear hpa4 hk4
          go_wp2_with fail
          go_meet
          exact ⟨_, rfl, t1, a1, cap1, HRUN4.out, .inl ⟨n', HD1.out, HL.out, rfl, HPA4.out⟩⟩
        · have hmy := may_bad h3 (by omega) 5 [45, 62]
          have HMY := Lib.hid hmy; have HRUN := Lib.hid hrun; have HD1 := Lib.hid h1; have HL := Lib.hid h2; have HPA := Lib.hid h3
          clear hmy hrun h1 h2 h3
          go_wp2_with fail
          refine HMY.out.mono ?_
          rintro e w4 ⟨rfl, hw4⟩
          have hb4 : Below wc.heap.size wc w4 := by rw [hw4]; exact (Below.refl _ _).drew
          have HRUN4 := Lib.hid (HRUN.out.step HR.out (keep_below HPA.out hb4)); have HPA4 := Lib.hid (HPA.out.later hb4)
          clear hb4 hw4
          go_wp2_with fail
          go_meet
          exact ⟨false, rfl, t1, a1, cap1, HRUN4.out, .inr ⟨rfl, n', b, HD1.out, HL.out, HPA4.out⟩⟩
      case rest =>
        obtain ⟨q, rfl, hmid⟩ := hcut
        have HMID := Lib.hid hmid
        clear hmid HST
        go_upto_if 13 with fail
        go_cut [] (fun wx => PgSt rb w L la lcap f c3 (Nt.arrD f (Nt.pairD f D)) wx)
        case first =>
          cases q with
          | false =>
            go_wp2_with fail
            go_meet
            obtain ⟨t1, a1, cap1, hrun, ⟨n', h1, h2, h3, h4⟩ | ⟨-, n', b, h1, h2, h3⟩⟩ := HMID.out
            · refine ⟨t1, a1, cap1, hrun, .inl ⟨n', ?_, h2, h4⟩⟩
              rw [h1]
              simp only [Nt.arrD, ← isTk_hd, h3, Bool.false_eq_true, if_false]
            · exact ⟨t1, a1, cap1, hrun, .inr ⟨n', b, by rw [h1]; rfl, h2, h3⟩⟩
          | true =>
            obtain ⟨t1, a1, cap1, hrun, ⟨n', h1, h2, h3, h4⟩ | ⟨h0, -⟩⟩ := HMID.out
            case inr => cases h0
            simp only [if_true] at h4
            obtain ⟨k1, hk1⟩ : ∃ q, t1.kind = q := ⟨_, rfl⟩
            obtain ⟨n1, hn1⟩ : ∃ q, t1.num = q := ⟨_, rfl⟩
            obtain ⟨m1, hm1⟩ : ∃ q, t1.kids.length = q := ⟨_, rfl⟩
            have hpd := h4.later (Below.refl _ _).drew
            have hcl := HTC.out (n' + 1) _ hpd (by omega)
            have hrd := hrun.step HR.out (keep_below h4 (Below.refl _ _).drew)
            have hte : tv t1 a1 cap1 = Value.agg #[.int .i64 k1, .int .i64 n1, .slice a1 m1 cap1] := by unfold tv; rw [hk1, hn1, hm1]
            have hdl := fun u q (h : Nt.typeD f (ksAt L (n' + 1)) = Nt.Rd.ok u q) => (Nt.atomD_lt f).2 _ _ _ h
            have HCL := Lib.hid hcl; have HRD := Lib.hid hrd; have HTE := Lib.hid hte; have HD1 := Lib.hid h1; have HIS := Lib.hid h3; have HFU := Lib.hid h2; have HK1 := Lib.hid hk1; have HN1 := Lib.hid hn1; have HM1 := Lib.hid hm1; have HDL := Lib.hid hdl
            clear hpd hcl hte h1 h2 h3 h4 hrun hdl
            obtain ⟨⟨x0, x1, x2, xf⟩, -⟩ := hrd.cells hk1 hn1 hm1
            clear hk1 hn1 hm1
            clear hrd
            go_upto_region 5 with fail
            go_region_law (first
              | (go_simp
                 go_at_call 28
                 refine HCL.out.mono ?_
                 rintro e w6 ⟨u, b6, cap6, rfl, hty6, hk6, hd6⟩
                 dsimp only
                 have hrun6 := HRD.out.step HR.out hk6
                 have hty6' := hty6.moved (G' := fun b => w.heap.size < b ∧ b ≠ c3 ∧ b < w6.heap.size) (fun _ _ _ => rfl) (fun b hb => by have h7 := HRD.out.lt; have h8 := HRD.out.far; have h9 := hb.1; exact ⟨by omega, by omega, hb.2⟩)
                 have htw := twoG_any (fun b => w.heap.size < b ∧ b ≠ c3 ∧ b < w6.heap.size) 9 (by unfold I64; omega) t1 a1 cap1 u b6 cap6 w6 (fun b h => h.2.2) hrun6.ty hty6'
                 rw [HTE.out] at htw
                 have HTW := Lib.hid htw
                 have HRUN6 := Lib.hid hrun6
                 have HD6 := Lib.hid hd6
                 obtain ⟨⟨y0, y1, y2, yf⟩, -⟩ := hrun6.cells HK1.out HN1.out HM1.out
                 clear hty6 hk6 hd6 hrun6 hty6' htw)
              | (go_simp
                 go_at_call 50
                 refine HTW.out.mono ?_
                 rintro e w7 ⟨a7, cap7, rfl, hty7, hb7⟩
                 rw [show tv (T.mk 9 0 [t1, u]) a7 cap7 = Value.agg #[.int .i64 9, .int .i64 0, .slice a7 2 cap7] from rfl]
                 dsimp only
                 have hrun7 := HRUN6.out.step HR.out (PgKeep.of_below hb7 (Nat.le_of_lt (Nat.lt_of_lt_of_le HR.out HRUN6.out.keep.low.size)))
                 have HRUN7 := Lib.hid hrun7; have HTY7 := Lib.hid hty7; have HB7 := Lib.hid hb7
                 obtain ⟨⟨z0, z1, z2, zf⟩, -⟩ := hrun7.cells HK1.out HN1.out HM1.out
                 clear hty7 hb7 hrun7))
            all_goals
              go_wp2_with fail
              go_meet
              obtain ⟨w8, hw8⟩ : ∃ w8, ((w7.setCell ⟨c3, 0, none⟩ (.int .i64 9)).setCell ⟨c3, 1, none⟩ (.int .i64 0)).setCell ⟨c3, 2, none⟩ (.slice a7 2 cap7) = w8 := ⟨_, rfl⟩
              rw [hw8]
              have hB := box_put (rb := rb) (t := .mk 9 0 [t1, u]) HRUN7.out.box hw8
              have hsz := HB7.out.size
              have h6l := HRUN6.out.lt
              have h6f := HRUN6.out.far
              have hrun8 := HRUN7.out.put (t2 := .mk 9 0 [t1, u]) HR.out (HTY7.out.moved (fun _ _ _ => rfl) (fun b hb => by
                rcases hb with hb | hb
                · exact ⟨hb.1, hb.2.1, by omega⟩
                · exact ⟨by omega, by omega, hb.2⟩)) hw8
              refine ⟨_, a7, cap7, hrun8, ?_⟩
              have hhd : Nt.hd (ksAt L n') 5 [45, 62] = true := by rw [← isTk_hd]; exact HIS.out
              have htl : (ksAt L n').tail = ksAt L (n' + 1) := by rw [ksAt_tail HIS.out]; rfl
              rcases HD6.out with ⟨r6, n6, e1, e2, e3⟩ | ⟨n6, b, e1, e2, e3⟩
              · subst e2
                refine .inl ⟨n6, ?_, ?_, hB.at hw8 (e3.later HB7.out) HC3.out⟩
                · rw [HD1.out]
                  simp only [Nt.arrD, hhd, if_true, htl, e1]
                · have h9 := HDL.out _ _ e1
                  rw [ksAt_len, ksAt_len] at h9
                  have := HFU.out
                  omega
              · refine .inr ⟨n6, b, ?_, e2, hB.at hw8 (e3.later HB7.out) HC3.out⟩
                rw [HD1.out]
                simp only [Nt.arrD, hhd, if_true, htl, e1]
        case rest =>
          have HST := Lib.hid hcut
          clear hcut HMID
          obtain ⟨t1, a1, cap1, hrun, hcase⟩ := HST.out
          obtain ⟨k1, hk1⟩ : ∃ q, t1.kind = q := ⟨_, rfl⟩
          obtain ⟨n1, hn1⟩ : ∃ q, t1.num = q := ⟨_, rfl⟩
          obtain ⟨m1, hm1⟩ : ∃ q, t1.kids.length = q := ⟨_, rfl⟩
          obtain ⟨⟨x0, x1, x2, xf⟩, z0, z1, z2, zf⟩ := hrun.cells hk1 hn1 hm1
          have HRUN := Lib.hid hrun; have HCASE := Lib.hid hcase
          clear hrun hcase HST
          go_wp2_with fail
          obtain ⟨w6, hw6⟩ : ∃ w6, ((wc.setCell ⟨w.heap.size, 0, none⟩ (.int .i64 t1.kind)).setCell ⟨w.heap.size, 1, none⟩ (.int .i64 t1.num)).setCell ⟨w.heap.size, 2, none⟩ (.slice a1 t1.kids.length cap1) = w6 := ⟨_, rfl⟩
          obtain ⟨h1, h2, h3, h4⟩ := HRUN.out.done HR.out hw6
          rw [hk1, hn1, hm1] at hw6
          rw [hw6]
          refine bodyPost_ret_by (v := tv t1 a1 cap1) (results_cell_row (p := 2) (ty := 24) (by kernel_rfl) _ _ w.heap.size 24 _ (0, 0) _ rfl h1 Tryz.underlying24 rfl (by kernel_rfl)) rfl ⟨t1, a1, cap1, rfl, h2, h3, ?_⟩
          rcases HCASE.out with ⟨n', e1, -, e3⟩ | ⟨n', b, e1, e2, e3⟩
          · exact .inl ⟨_, n', e1, rfl, h4 e3⟩
          · exact .inr ⟨n', b, e1, e2, h4 e3⟩
/-- All three, whatever the fuel. -/
theorem pg_all (rb : Nat) (L : List Lx.Tok) (la : Option Addr) (lcap : Nat) : ∀ f, AtomC rb L la lcap f ∧ PostC rb L la lcap f ∧ TypeC rb L la lcap f
  | 0 => ⟨fun _ _ _ h => absurd h (by omega), fun _ _ _ h => absurd h (by omega), fun _ _ _ h => absurd h (by omega)⟩
  | f + 1 => by
    obtain ⟨_, h2, h3⟩ := pg_all rb L la lcap f
    have ha := atom_of h3
    have hp := post_of ha
    exact ⟨ha, hp, type_of hp h2 h3⟩
end Go.Proofs.YtideicoifinnoaaGreatDoor
namespace Go.Proofs.YtideicoifinnoaaGreatDoor
open Go Go.RowKit
open Tp (T)

theorem pg_ret {L : List Lx.Tok} {i : Int} {w w5 : World} {t : T} {a : Option Addr} {cap n N : Nat} {x : Int} (ho : readOut L i = (t, n, x)) (hb : Below w.heap.size w w5) {fz : Nat × Nat} (hx : w5.heap[N]? = some (Obj.cells #[.int .i64 t.kind, .int .i64 t.num, .slice a t.kids.length cap] 24 fz)) (ht : TyAt (LT w5.heap.size) w5 t a cap) {fr : Act}
    (hd : fr.defers = []) (h4 : fr.tmps.getD 4 undef = .pointer (some ⟨N, 0, none⟩)) (h5 : fr.tmps.getD 5 undef = .int .i64 (n : Int)) (h6 : fr.tmps.getD 6 undef = .int .i64 x) : bodyPost Tryz.prog Tryz.f12 (ReadPost L i w) .ret fr w5 := by
  refine bodyPost_ret_by (v := .tuple #[tv t a cap, .int .i64 (n : Int), .int .i64 x]) ?_ hd (readOut_tv ho rfl ht hb)
  rw [results_cell_tmp2 (p := 4) (u := 5) (u' := 6) (ty := 24) (by kernel_rfl), h4, h5, h6]
  simp [asAddr, Result.andThen, run_loadVar_row w5 _ 24 24 _ _ _ hx Tryz.underlying24 rfl (by kernel_rfl), tv]
theorem pg_start {w : World} {la : Option Addr} {lcap : Nat} {L : List Lx.Tok} {n : Nat} (h : TksAt w.heap.size w la L) (hL : L.length ≤ 100000) (hn : n ≤ L.length) {w2 : World}
    (hw : (w.alloc (.cells #[.int .i64 0, .int .i64 0, .slice none 0 0] 24)).alloc (.cells #[.slice la L.length lcap, .int .i64 (n : Int), .int .i64 (-1)] 71) = w2) :
    PgAt w2 (w.heap.size + 1) L la lcap n (-1) ∧ w2.heap[w.heap.size]? = some (.cells #[.int .i64 0, .int .i64 0, .slice none 0 0] 24 (0, 0)) ∧ Below w.heap.size w w2 ∧ w2.heap.size = w.heap.size + 2 := by
  have h1 := box1 w #[.int .i64 0, .int .i64 0, .slice none 0 0] #[.slice la L.length lcap, .int .i64 (n : Int), .int .i64 (-1)] 24 71
  have h2 := box2 w #[.int .i64 0, .int .i64 0, .slice none 0 0] #[.slice la L.length lcap, .int .i64 (n : Int), .int .i64 (-1)] 24 71
  have hb : Below w.heap.size w ((w.alloc (.cells #[.int .i64 0, .int .i64 0, .slice none 0 0] 24)).alloc (.cells #[.slice la L.length lcap, .int .i64 (n : Int), .int .i64 (-1)] 71)) := ((Below.refl _ _).alloc (Nat.le_refl _) _).alloc (by simp) _
  have hs : ((w.alloc (.cells #[.int .i64 0, .int .i64 0, .slice none 0 0] 24)).alloc (.cells #[.slice la L.length lcap, .int .i64 (n : Int), .int .i64 (-1)] 71)).heap.size = w.heap.size + 2 := by simp
  rw [hw] at h1 h2 hb hs
  refine ⟨⟨h2, ?_, hn, hL⟩, h1, hb, hs⟩
  rcases h.below hb with h3 | ⟨g, e1, e2, e3⟩
  · exact .inl h3
  · exact .inr ⟨g, e1, by omega, e3⟩
set_option maxRecDepth 100000 in
set_option maxHeartbeats 4000000 in
theorem rread_any (la : Option Addr) (lcap : Nat) (L : List Lx.Tok) (i : Int) (w : World) (h : TksAt w.heap.size w la L) (hL : L.length ≤ 100000) (hi : I64 i) :
    Calls Tryz.prog 12 #[.slice la L.length lcap, .int .i64 i] w (ReadPost L i w) := by
  obtain ⟨N, hN⟩ : ∃ N, w.heap.size = N := ⟨_, rfl⟩
  obtain ⟨m, hm⟩ : ∃ m : Nat, L.length = m := ⟨_, rfl⟩
  by_cases hin : i < 0 ∨ (L.length : Int) < i
  · have hnew := World.alloc_heap_new w (.cells #[.int .i64 0, .int .i64 0, .slice none 0 0] 24)
    have hbl : Below w.heap.size w (w.alloc (.cells #[.int .i64 0, .int .i64 0, .slice none 0 0] 24)) := (Below.refl _ _).alloc (Nat.le_refl _) _
    have HO := Lib.hid (readOut_out hin); have HBL := Lib.hid hbl; have HNEW := Lib.hid hnew; have HNN := Lib.hid hN
    rw [hm] at hin ⊢
    rw [hN] at hnew
    have x0 : (w.alloc (.cells #[.int .i64 0, .int .i64 0, .slice none 0 0] 24)).cell? ⟨N, 0, none⟩ = some (.int .i64 0) := cell_box hnew rfl rfl
    have x1 : (w.alloc (.cells #[.int .i64 0, .int .i64 0, .slice none 0 0] 24)).cell? ⟨N, 1, none⟩ = some (.int .i64 0) := cell_box hnew rfl rfl
    have x2 : (w.alloc (.cells #[.int .i64 0, .int .i64 0, .slice none 0 0] 24)).cell? ⟨N, 2, none⟩ = some (.slice none 0 0) := cell_box hnew rfl rfl
    have zf : ∀ j, (w.alloc (.cells #[.int .i64 0, .int .i64 0, .slice none 0 0] 24)).frozen? ⟨N, j, none⟩ = false := fun j => by simp [World.frozen?, hnew]
    obtain ⟨b, hb⟩ : ∃ b, decide (i < 0) = b := ⟨_, rfl⟩
    have hb2 : b = false → decide (i > (m : Int)) = true := fun e => by subst e; rw [decide_eq_true_eq]; have := of_decide_eq_false hb; omega
    clear h hL hi hin hbl hnew hm
    go_enter Tryz.func12, Tryz.ntmps12
    cases b with
    | true =>
      clear hb2
      go_wp2_with fail
      have hnw := HNEW.out
      rw [HNN.out] at hnw
      refine pg_ret HO.out HBL.out hnw (noT_at _ _) ?_ ?_ ?_ ?_ <;> rfl
    | false =>
      have hb3 := hb2 rfl
      clear hb2
      go_wp2_with fail
      have hnw := HNEW.out
      rw [HNN.out] at hnw
      refine pg_ret HO.out HBL.out hnw (noT_at _ _) ?_ ?_ ?_ ?_ <;> rfl
  · obtain ⟨n, rfl⟩ : ∃ n : Nat, i = n := ⟨i.toNat, by omega⟩
    have hn : n ≤ L.length := by omega
    obtain ⟨w2, hw2⟩ : ∃ w2, (w.alloc (.cells #[.int .i64 0, .int .i64 0, .slice none 0 0] 24)).alloc (.cells #[.slice la L.length lcap, .int .i64 (n : Int), .int .i64 (-1)] 71) = w2 := ⟨_, rfl⟩
    obtain ⟨hpg, hbx, hbl, hs2⟩ := pg_start h hL hn hw2
    have hty := (pg_all (w.heap.size + 1) L la lcap (L.length + 1)).2.2 n w2 hpg (by omega)
    have hpage := Nt.read_page (ksAt L n) (L.length + 1) (by rw [ksAt_len]; omega)
    generalize hD : Nt.typeD (L.length + 1) (ksAt L n) = D at hty hpage
    have f1 : ¬ (n : Int) < 0 := by omega
    have f2 : ¬ (n : Int) > (m : Int) := by omega
    rw [hm] at hw2
    have HW2 := Lib.hid hw2; have HPG := Lib.hid hpg; have HBX := Lib.hid hbx; have HBL := Lib.hid hbl; have HS2 := Lib.hid hs2; have HTY := Lib.hid hty; have HPAGE := Lib.hid hpage; have HNL := Lib.hid hn
    rw [hm]
    clear h hL hi hin hn hw2 hpg hbx hbl hs2 hty hpage hD hN hm
    go_enter Tryz.func12, Tryz.ntmps12
    go_upto_region 4 with fail
    clear f1 f2
    rw [HW2.out]
    go_wp2_with fail
    refine HTY.out.mono ?_
    rintro e w3 ⟨t, a, cap, rfl, hty3, hk3, hd3⟩
    obtain ⟨w4, hw4⟩ : ∃ w4, w3.alloc (.cells #[.int .i64 t.kind, .int .i64 t.num, .slice a t.kids.length cap] 24) = w4 := ⟨_, rfl⟩
    have hal : Below w3.heap.size w3 w4 := by rw [← hw4]; exact (Below.refl _ _).alloc (Nat.le_refl _) _
    have hnw : w4.heap[w3.heap.size]? = some (.cells #[.int .i64 t.kind, .int .i64 t.num, .slice a t.kids.length cap] 24 (0, 0)) := by rw [← hw4]; exact World.alloc_heap_new w3 _
    have hlt := hk3.low.size
    have hbx4 : w4.heap[w.heap.size]? = some (.cells #[.int .i64 0, .int .i64 0, .slice none 0 0] 24 (0, 0)) := (hal.block _ (by have := HS2.out; omega)).trans ((hk3.low.block _ (by omega)).trans HBX.out)
    have hty4 := hty3.below hal (fun b h => h.2) (fun b h => h)
    have hbl4 : Below w.heap.size w w4 := HBL.out.trans ((hk3.low.mono (by omega)).trans (hal.mono (by have := HS2.out; omega)))
    have hd4 : (∃ r n', D = .ok t r ∧ r = ksAt L n' ∧ PgAt w4 (w.heap.size + 1) L la lcap n' (-1)) ∨ (∃ n' b : Nat, D = .err (ksAt L b) ∧ b ≤ L.length ∧ PgAt w4 (w.heap.size + 1) L la lcap n' (b : Int)) := by
      rcases hd3 with ⟨r, n', h1, h2, h3⟩ | ⟨n', b, h1, h2, h3⟩
      · exact .inl ⟨r, n', h1, h2, h3.later hal⟩
      · exact .inr ⟨n', b, h1, h2, h3.later hal⟩
    rw [show tv t a cap = Value.agg #[.int .i64 t.kind, .int .i64 t.num, .slice a t.kids.length cap] from rfl]
    have HW4 := Lib.hid hw4; have HNW := Lib.hid hnw; have HTY4 := Lib.hid hty4; have HBL4 := Lib.hid hbl4; have HBX4 := Lib.hid hbx4; have HSW := Lib.hid (show w2.heap.size ≤ w3.heap.size from hlt); have HS4 := Lib.hid (show w4.heap.size = w3.heap.size + 1 by rw [← hw4]; simp)
    have x0 : w4.cell? ⟨w.heap.size, 0, none⟩ = some (.int .i64 0) := cell_box hbx4 rfl rfl
    have x1 : w4.cell? ⟨w.heap.size, 1, none⟩ = some (.int .i64 0) := cell_box hbx4 rfl rfl
    have x2 : w4.cell? ⟨w.heap.size, 2, none⟩ = some (.slice none 0 0) := cell_box hbx4 rfl rfl
    have zf : ∀ j, w4.frozen? ⟨w.heap.size, j, none⟩ = false := fun j => by simp [World.frozen?, hbx4]
    have y0 : w4.cell? ⟨w3.heap.size, 0, none⟩ = some (.int .i64 t.kind) := cell_box hnw rfl rfl
    have y1 : w4.cell? ⟨w3.heap.size, 1, none⟩ = some (.int .i64 t.num) := cell_box hnw rfl rfl
    have y2 : w4.cell? ⟨w3.heap.size, 2, none⟩ = some (.slice a t.kids.length cap) := cell_box hnw rfl rfl
    clear hty3 hk3 hd3 hw4 hal hnw hlt hbx4 hty4 hbl4
    go_upto_region 5 with fail
    rw [HW4.out]
    rcases hd4 with ⟨r, n', h1, rfl, h3⟩ | ⟨n', b, h1, h2, h3⟩
    · obtain ⟨c0, c1, c2⟩ := h3.cells
      have HP := Lib.hid h3; have HD := Lib.hid h1
      clear h1 h3
      go_upto_region 7 with fail
      go_region
      go_wp2_with fail
      obtain ⟨wd, hwd⟩ : ∃ wd, ((w4.setCell ⟨w.heap.size, 0, none⟩ (.int .i64 t.kind)).setCell ⟨w.heap.size, 1, none⟩ (.int .i64 t.num)).setCell ⟨w.heap.size, 2, none⟩ (.slice a t.kids.length cap) = wd := ⟨_, rfl⟩
      rw [hwd]
      have hB := box_put (rb := w.heap.size + 1) (t := t) (a := a) (cap := cap) HBX4.out hwd
      have hbw : Below w.heap.size w wd := by
        rw [← hwd]
        exact ((HBL4.out.setCell (p := ⟨w.heap.size, 0, none⟩) (Nat.le_refl _) _).setCell (p := ⟨w.heap.size, 1, none⟩) (Nat.le_refl _) _).setCell (p := ⟨w.heap.size, 2, none⟩) (Nat.le_refl _) _
      have hdr : Below wd.heap.size wd wd.drew := (Below.refl _ _).drew
      have hbx := (hdr.block _ (Array.getElem?_eq_some_iff.1 hB.box).1).trans hB.box
      have htd := ty_later (hB.ty (G' := LT wd.heap.size) (fun b hb => by have := HS2.out; have := hb.1; omega) (fun b hb => by
        show b < wd.heap.size
        rw [hB.size, HS4.out]
        have := hb.2
        omega) HTY4.out) hdr
      refine pg_ret (readOut_ok HNL.out HP.out.fit ?_) hbw.drew hbx htd ?_ ?_ ?_ ?_
      · rw [HPAGE.out, HD.out]
      all_goals rfl
    · obtain ⟨c0, c1, c2⟩ := h3.cells
      have hge : (b : Int) ≥ 0 := by omega
      have HP := Lib.hid h3; have HD := Lib.hid h1; have HBN := Lib.hid h2
      clear h1 h3 h2
      go_upto_region 6 with fail
      go_region
      go_wp2_with fail
      obtain ⟨wd, hwd⟩ : ∃ wd, ((w4.setCell ⟨w.heap.size, 0, none⟩ (.int .i64 0)).setCell ⟨w.heap.size, 1, none⟩ (.int .i64 0)).setCell ⟨w.heap.size, 2, none⟩ (.slice none 0 0) = wd := ⟨_, rfl⟩
      rw [hwd]
      have hB := box_put (rb := w.heap.size + 1) (t := Nt.noT) (a := none) (cap := 0) HBX4.out hwd
      have hbw : Below w.heap.size w wd := by
        rw [← hwd]
        exact ((HBL4.out.setCell (p := ⟨w.heap.size, 0, none⟩) (Nat.le_refl _) _).setCell (p := ⟨w.heap.size, 1, none⟩) (Nat.le_refl _) _).setCell (p := ⟨w.heap.size, 2, none⟩) (Nat.le_refl _) _
      have hdr : Below wd.heap.size wd wd.drew := (Below.refl _ _).drew
      have hbx := (hdr.block _ (Array.getElem?_eq_some_iff.1 hB.box).1).trans hB.box
      refine pg_ret (readOut_no HNL.out HBN.out ?_) hbw.drew hbx (noT_at _ _) ?_ ?_ ?_ ?_
      · rw [HPAGE.out, HD.out]
      all_goals rfl
end Go.Proofs.YtideicoifinnoaaGreatDoor
