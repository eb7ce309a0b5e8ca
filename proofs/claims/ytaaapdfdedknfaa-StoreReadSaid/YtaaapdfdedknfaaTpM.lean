/- Types that lie in memory: a node takes three cells, its kids a slice. -/
import Derived.Test.YtaaapdfdedknfaaTpP
import Derived.Test.YtaaapdfdedknfaaProg
import Derived.WalkKit
import Derived.Below
namespace Go.Proofs.Ytaaapdfdedknfaa
open Go Go.RowKit
open Tp (T)

/-- The blocks below n. -/
def LT (n : Nat) : Nat → Prop := fun b => b < n
def I64 (x : Int) : Prop := -9223372036854775808 ≤ x ∧ x ≤ 9223372036854775807
mutual
/-- The cells from o on of block b are the type's. -/
def NodeAt (G : Nat → Prop) (W : World) : T → Nat → Nat → Prop
  | .mk k n l, b, o => I64 k ∧ I64 n ∧ W.cell? ⟨b, o, none⟩ = some (.int .i64 k) ∧ W.cell? ⟨b, o + 1, none⟩ = some (.int .i64 n) ∧
      ∃ a cap, W.cell? ⟨b, o + 2, none⟩ = some (.slice a l.length cap) ∧ l.length ≤ cap ∧ cap ≤ maxLen ∧ KidsAt G W l a
/-- A slice that begins at a holds these types, in blocks of G. -/
def KidsAt (G : Nat → Prop) (W : World) : List T → Option Addr → Prop
  | [], _ => True
  | t :: r, a => ∃ b o, a = some ⟨b, o, none⟩ ∧ G b ∧ NodeAt G W t b o ∧ KidsAt G W r (some ⟨b, o + 3, none⟩)
end
/-- The value of a slice that holds these types. -/
def SlAt (G : Nat → Prop) (W : World) (l : List T) (a : Option Addr) (cap : Nat) : Prop := l.length ≤ cap ∧ cap ≤ maxLen ∧ KidsAt G W l a
/-- The value of a type, by value. -/
def tv (t : T) (a : Option Addr) (cap : Nat) : Value := .agg #[.int .i64 t.kind, .int .i64 t.num, .slice a t.kids.length cap]
def TyAt (G : Nat → Prop) (W : World) (t : T) (a : Option Addr) (cap : Nat) : Prop := I64 t.kind ∧ I64 t.num ∧ SlAt G W t.kids a cap

mutual
theorem NodeAt.mono {G G' : Nat → Prop} {W W' : World} (h : ∀ b o, G b → W'.cell? ⟨b, o, none⟩ = W.cell? ⟨b, o, none⟩) (hn : ∀ b, G b → G' b) : ∀ (t : T) (b o : Nat), G b → NodeAt G W t b o → NodeAt G' W' t b o
  | .mk k n l, b, o, hb, hx => by
    simp only [NodeAt] at hx ⊢
    obtain ⟨h1, h2, h3, h4, a, cap, h5, h6, h7, h8⟩ := hx
    exact ⟨h1, h2, by rw [h _ _ hb]; exact h3, by rw [h _ _ hb]; exact h4, a, cap, by rw [h _ _ hb]; exact h5, h6, h7, KidsAt.mono h hn l a h8⟩
theorem KidsAt.mono {G G' : Nat → Prop} {W W' : World} (h : ∀ b o, G b → W'.cell? ⟨b, o, none⟩ = W.cell? ⟨b, o, none⟩) (hn : ∀ b, G b → G' b) : ∀ (l : List T) (a : Option Addr), KidsAt G W l a → KidsAt G' W' l a
  | [], _, _ => by simp [KidsAt]
  | t :: r, a, hx => by
    simp only [KidsAt] at hx ⊢
    obtain ⟨b, o, h1, h2, h3, h4⟩ := hx
    exact ⟨b, o, h1, hn b h2, NodeAt.mono h hn t b o h2 h3, KidsAt.mono h hn r _ h4⟩
end
theorem KidsAt.below {G G' : Nat → Prop} {B : Nat} {W W' : World} {l : List T} {a : Option Addr} (hx : KidsAt G W l a) (hb : Below B W W') (hB : ∀ b, G b → b < B) (hn : ∀ b, G b → G' b) : KidsAt G' W' l a :=
  KidsAt.mono (fun b o h => hb.cell (p := ⟨b, o, none⟩) (hB b h)) hn l a hx
theorem SlAt.below {G G' : Nat → Prop} {B : Nat} {W W' : World} {l : List T} {a : Option Addr} {cap : Nat} (hx : SlAt G W l a cap) (hb : Below B W W') (hB : ∀ b, G b → b < B) (hn : ∀ b, G b → G' b) : SlAt G' W' l a cap :=
  ⟨hx.1, hx.2.1, hx.2.2.below hb hB hn⟩
theorem TyAt.below {G G' : Nat → Prop} {B : Nat} {W W' : World} {t : T} {a : Option Addr} {cap : Nat} (hx : TyAt G W t a cap) (hb : Below B W W') (hB : ∀ b, G b → b < B) (hn : ∀ b, G b → G' b) : TyAt G' W' t a cap :=
  ⟨hx.1, hx.2.1, hx.2.2.below hb hB hn⟩
theorem NodeAt.ty {G : Nat → Prop} {W : World} {t : T} {b o : Nat} (h : NodeAt G W t b o) : ∃ a cap, TyAt G W t a cap ∧ W.cell? ⟨b, o, none⟩ = some (.int .i64 t.kind) ∧ W.cell? ⟨b, o + 1, none⟩ = some (.int .i64 t.num) ∧ W.cell? ⟨b, o + 2, none⟩ = some (.slice a t.kids.length cap) := by
  cases t with
  | mk k n l =>
    simp only [NodeAt] at h
    obtain ⟨h1, h2, h3, h4, a, cap, h5, h6, h7, h8⟩ := h
    exact ⟨a, cap, ⟨h1, h2, h6, h7, h8⟩, h3, h4, h5⟩
theorem NodeAt.mk' {G : Nat → Prop} {W : World} {t : T} {b o : Nat} {a : Option Addr} {cap : Nat} (h : TyAt G W t a cap) (h0 : W.cell? ⟨b, o, none⟩ = some (.int .i64 t.kind)) (h1 : W.cell? ⟨b, o + 1, none⟩ = some (.int .i64 t.num))
    (h2 : W.cell? ⟨b, o + 2, none⟩ = some (.slice a t.kids.length cap)) : NodeAt G W t b o := by
  cases t with
  | mk k n l => simp only [NodeAt]; exact ⟨h.1, h.2.1, h0, h1, a, cap, h2, h.2.2.1, h.2.2.2.1, h.2.2.2.2⟩
/-- The i-th of the kids. -/
theorem KidsAt.nodes {G : Nat → Prop} {W : World} : ∀ (l : List T) (b o : Nat), KidsAt G W l (some ⟨b, o, none⟩) → ∀ i (h : i < l.length), NodeAt G W l[i] b (o + i * 3)
  | [], _, _, _, i, h => by simp at h
  | t :: r, b, o, hx, i, h => by
    simp only [KidsAt] at hx
    obtain ⟨b', o', h1, h2, h3, h4⟩ := hx
    injection h1 with h1
    injection h1 with h1 h1' h1''
    subst h1 h1'
    cases i with
    | zero => rw [Nat.zero_mul, Nat.add_zero]; exact h3
    | succ j =>
      have := KidsAt.nodes r b (o + 3) h4 j (by simpa using h)
      rw [show o + 3 + j * 3 = o + (j + 1) * 3 from by omega] at this
      exact this
theorem KidsAt.first {G : Nat → Prop} {W : World} {l : List T} {a : Option Addr} (h : KidsAt G W l a) (hl : 0 < l.length) : ∃ b o, a = some ⟨b, o, none⟩ ∧ G b ∧ ∀ i (h : i < l.length), NodeAt G W l[i] b (o + i * 3) := by
  cases l with
  | nil => simp at hl
  | cons t r =>
    have h' := h
    simp only [KidsAt] at h
    obtain ⟨b, o, h1, h2, h3, h4⟩ := h
    subst h1
    exact ⟨b, o, rfl, h2, KidsAt.nodes (t :: r) b o h'⟩
theorem KidsAt.of_nodes {G : Nat → Prop} {W : World} {b : Nat} (hb : G b) : ∀ (l : List T) (o : Nat), (∀ i (h : i < l.length), NodeAt G W l[i] b (o + i * 3)) → KidsAt G W l (some ⟨b, o, none⟩)
  | [], _, _ => by simp [KidsAt]
  | t :: r, o, h => by
    simp only [KidsAt]
    refine ⟨b, o, rfl, hb, by have := h 0 (Nat.succ_pos _); rw [Nat.zero_mul, Nat.add_zero] at this; exact this, KidsAt.of_nodes hb r (o + 3) (fun i hi => ?_)⟩
    have := h (i + 1) (by simpa using hi)
    rw [show o + (i + 1) * 3 = o + 3 + i * 3 from by omega] at this
    exact this
theorem KidsAt.tail {G : Nat → Prop} {W : World} {t : T} {r : List T} {b o : Nat} (h : KidsAt G W (t :: r) (some ⟨b, o, none⟩)) : KidsAt G W r (some ⟨b, o + 3, none⟩) := by
  simp only [KidsAt] at h
  obtain ⟨b', o', h1, h2, h3, h4⟩ := h
  injection h1 with h1
  injection h1 with h1 h1' h1''
  subst h1 h1'
  exact h4
/-- What a walk reads of the first of a row. -/
theorem KidsAt.head {G : Nat → Prop} {W : World} {t : T} {r : List T} {a : Option Addr} (h : KidsAt G W (t :: r) a) : ∃ b o, a = some ⟨b, o, none⟩ ∧ G b ∧ NodeAt G W t b o ∧ KidsAt G W r (some ⟨b, o + 3, none⟩) := by
  simpa only [KidsAt] using h
end Go.Proofs.Ytaaapdfdedknfaa
