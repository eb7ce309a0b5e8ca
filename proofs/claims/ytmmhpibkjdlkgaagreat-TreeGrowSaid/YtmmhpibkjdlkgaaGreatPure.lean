/- PLAIN FUNCTIONS ON LISTS OF BYTES: what package word answers. No program in this text. Patterns, plainly; a pattern in memory: a node takes seven cells, its kids a slice. Patterns, plainly: how great one is whose count stays small; of some, all are right. Walks: Key, smallLetter, nameByte, Name. The tree's rightPat, truth; item, patKid. -/
import Derived.Lib.ParseIntB
import Derived.Lib.ItoaNum
import Derived.Test.YtmmhpibkjdlkgaaGreatTpP
import Derived.Test.YtmmhpibkjdlkgaaGreatProg
import Derived.WalkKit
import Derived.WalkSpells
import Derived.WalkLawsBesides
import Derived.Lib.Hide
namespace Go.Proofs.YtmmhpibkjdlkgaaGreat.Wd
open Go

/-- The key words. -/
def keys : List (List UInt8) := [
  [108, 101, 116], [114, 101, 99], [105, 110], [102, 117, 110], [105, 102], [116, 104, 101, 110], [101, 108, 115, 101], [109, 97, 116, 99, 104],
  [119, 105, 116, 104], [101, 110, 100], [116, 114, 117, 101], [102, 97, 108, 115, 101], [105, 110, 116], [98, 111, 111, 108],
  [115, 116, 114, 105, 110, 103], [117, 110, 105, 116], [108, 105, 115, 116]]
def key (l : List UInt8) : Bool := keys.contains l
/-- A letter from a to z, on the byte's number. -/
def lowI (c : Int) : Bool := decide (97 ≤ c) && decide (c ≤ 122)
def partI (c : Int) : Bool := lowI c || (decide (65 ≤ c) && decide (c ≤ 90)) || (decide (48 ≤ c) && decide (c ≤ 57)) || c == 95 || c == 39
def low (c : UInt8) : Bool := lowI c.toNat
def part (c : UInt8) : Bool := partI c.toNat
/-- A right name. -/
def name (l : List UInt8) : Bool := match l with
  | [] => false
  | c :: r => decide (l.length ≤ 32) && low c && r.all part && !key l

theorem name_of (l : List UInt8) (h : 0 < l.length) : name l = (decide (l.length ≤ 32) && low l[0] && (l.drop 1).all part && !key l) := by
  cases l with
  | nil => simp at h
  | cons c r => simp [name]
theorem drop1_snoc (l : List UInt8) (k : Nat) (h1 : 1 ≤ k) (h : k < l.length) (f : UInt8 → Bool) : ((l.take (k + 1)).drop 1).all f = (((l.take k).drop 1).all f && f l[k]) := by
  have e : (l.take (k + 1)).drop 1 = (l.take k).drop 1 ++ [l[k]] := by
    rw [List.take_succ_eq_append_getElem h, List.drop_append_of_le_length (by simp; omega)]
  rw [e, List.all_append]; simp
theorem all_no (l : List UInt8) (k : Nat) (h1 : 1 ≤ k) (h : k < l.length) (f : UInt8 → Bool) (hf : f l[k] = false) : (l.drop 1).all f = false := by
  rw [List.all_eq_false]
  refine ⟨l[k], ?_, by simp [hf]⟩
  rw [List.mem_iff_getElem]
  exact ⟨k - 1, by simp; omega, by simp [Nat.sub_add_cancel h1]⟩
theorem start_all (l : List UInt8) (f : UInt8 → Bool) : ((l.take 1).drop 1).all f = true := by
  cases l <;> simp

/-! ### Literals -/
def plainI (c : Int) : Bool := decide (32 ≤ c) && decide (c ≤ 126) && (c != 34) && (c != 92)
def plain (c : UInt8) : Bool := plainI c.toNat
def hex : List UInt8 := [48, 49, 50, 51, 52, 53, 54, 55, 56, 57, 97, 98, 99, 100, 101, 102]
def hexAt (n : Nat) : UInt8 := hex.getD n 0
/-- What stands for one byte within a literal. -/
def qb (c : UInt8) : List UInt8 := if plain c then [c] else [92, hexAt (c.toNat / 16), hexAt (c.toNat % 16)]
def body (l : List UInt8) : List UInt8 := l.flatMap qb
def quote (l : List UInt8) : List UInt8 := 34 :: body l ++ [34]
/-- The literal of the first bytes, without the last sign. -/
def qpre (l : List UInt8) (k : Nat) : List UInt8 := 34 :: body (l.take k)
end Go.Proofs.YtmmhpibkjdlkgaaGreat.Wd
namespace Go.Proofs.YtmmhpibkjdlkgaaGreat
open Go Go.RowKit

namespace Tr
/-- A pattern: kind, from, to, number, name, text, kids. -/
inductive P where
  | mk (k f t n : Int) (nm s : List UInt8) (l : List P)
def P.kind : P → Int | .mk k _ _ _ _ _ _ => k
def P.frm : P → Int | .mk _ f _ _ _ _ _ => f
def P.til : P → Int | .mk _ _ t _ _ _ _ => t
def P.num : P → Int | .mk _ _ _ n _ _ _ => n
def P.nm : P → List UInt8 | .mk _ _ _ _ s _ _ => s
def P.s : P → List UInt8 | .mk _ _ _ _ _ s _ => s
def P.kids : P → List P | .mk _ _ _ _ _ _ l => l
mutual
def size : P → Nat | .mk _ _ _ _ _ _ l => sizes l + 1
def sizes : List P → Nat | [] => 0 | p :: r => size p + sizes r
end
mutual
/-- How many nodes lie below it, as the law counts: 401 where a text is too long; no further once there are more than 400. -/
def cnt : P → Nat → Nat | .mk _ _ _ _ nm s l, n => if 300 < s.length ∨ 300 < nm.length then 401 else cnts l n
def cnts : List P → Nat → Nat | [], n => n | p :: r, n => if n ≤ 400 then cnts r (cnt p (n + 1)) else n
end
mutual
/-- The names, in the order of the tree. -/
def names : P → List (List UInt8) | .mk k _ _ _ nm _ l => (if k = 2 then [nm] else []) ++ namess l
def namess : List P → List (List UInt8) | [] => [] | p :: r => names p ++ namess r
end
/-- How many kids a node of a kind has; below 0: no kind. -/
def parity (k : Int) : Int := if k = 1 ∨ k = 2 ∨ k = 3 ∨ k = 4 ∨ k = 5 ∨ k = 6 ∨ k = 8 then 0 else if k = 7 ∨ k = 9 then 2 else -1
/-- Is a node right, whatever its kids are? -/
def nodeRight (k n : Int) (nm s : List UInt8) (len : Nat) : Bool :=
  decide (parity k = len) && (if k = 2 then Wd.name nm else decide (nm = [])) && (if k = 3 then true else if k = 4 then decide (0 ≤ n ∧ n ≤ 1) else decide (n = 0)) && (if k = 5 then decide (s.length ≤ 200) else decide (s = []))
mutual
def right1 : P → Bool | .mk k _ _ n nm s l => nodeRight k n nm s l.length && rights1 l
def rights1 : List P → Bool | [] => true | p :: r => right1 p && rights1 r
end
/-- No name twice. -/
def distinct (l : List (List UInt8)) : Bool := decide l.Nodup
def right (p : P) : Bool := right1 p && distinct (names p)
theorem size_pos (p : P) : 0 < size p := by cases p; simp [size]
theorem sizes_append : ∀ l m : List P, sizes (l ++ m) = sizes l + sizes m
  | [], m => by simp [sizes]
  | t :: r, m => by simp only [List.cons_append, sizes, sizes_append r m]; omega
theorem size_kids (p : P) : size p = sizes p.kids + 1 := by cases p; rfl
theorem size_kid : ∀ (l : List P) (k : Nat) (h : k < l.length), size l[k] ≤ sizes l
  | [], k, h => by simp at h
  | p :: r, 0, _ => by simp [sizes]
  | p :: r, k + 1, h => by have := size_kid r k (by simpa using h); simp only [sizes, List.getElem_cons_succ]; omega
theorem length_le_sizes : ∀ l : List P, l.length ≤ sizes l
  | [] => Nat.le_refl _
  | p :: r => by have := length_le_sizes r; have := size_pos p; simp only [sizes, List.length_cons]; omega
end Tr
open Tr (P)
/-- A slice's beginning: none, or a cell of a block. -/
def Flat (a : Option Addr) : Prop := a = none ∨ ∃ b o, a = some ⟨b, o, none⟩
mutual
/-- The cells from o on of block b are the pattern's. -/
def PNode (G : Nat → Prop) (W : World) : P → Nat → Nat → Prop
  | .mk k f t n nm s l, b, o => (I64 k ∧ I64 n) ∧ W.cell? ⟨b, o, none⟩ = some (.int .i64 k) ∧ W.cell? ⟨b, o + 1, none⟩ = some (.int .i64 f) ∧ W.cell? ⟨b, o + 2, none⟩ = some (.int .i64 t) ∧
      W.cell? ⟨b, o + 3, none⟩ = some (.string ⟨nm.toArray⟩) ∧ W.cell? ⟨b, o + 4, none⟩ = some (.int .i64 n) ∧ W.cell? ⟨b, o + 5, none⟩ = some (.string ⟨s.toArray⟩) ∧
      ∃ a cap, W.cell? ⟨b, o + 6, none⟩ = some (.slice a l.length cap) ∧ l.length ≤ cap ∧ cap ≤ maxLen ∧ PKids G W l a
def PKids (G : Nat → Prop) (W : World) : List P → Option Addr → Prop
  | [], _ => True
  | p :: r, a => ∃ b o, a = some ⟨b, o, none⟩ ∧ G b ∧ PNode G W p b o ∧ PKids G W r (some ⟨b, o + 7, none⟩)
end
/-- The value of a pattern, by value. -/
def pv (p : P) (a : Option Addr) (cap : Nat) : Value := .agg #[.int .i64 p.kind, .int .i64 p.frm, .int .i64 p.til, .string ⟨p.nm.toArray⟩, .int .i64 p.num, .string ⟨p.s.toArray⟩, .slice a p.kids.length cap]
def PatAt (G : Nat → Prop) (W : World) (p : P) (a : Option Addr) (cap : Nat) : Prop := (I64 p.kind ∧ I64 p.num) ∧ p.kids.length ≤ cap ∧ cap ≤ maxLen ∧ PKids G W p.kids a
/-- The seven cells of a node. -/
structure PCells (W : World) (b o : Nat) (p : P) (a : Option Addr) (cap : Nat) : Prop where
  c0 : W.cell? ⟨b, o, none⟩ = some (.int .i64 p.kind)
  c1 : W.cell? ⟨b, o + 1, none⟩ = some (.int .i64 p.frm)
  c2 : W.cell? ⟨b, o + 2, none⟩ = some (.int .i64 p.til)
  c3 : W.cell? ⟨b, o + 3, none⟩ = some (.string ⟨p.nm.toArray⟩)
  c4 : W.cell? ⟨b, o + 4, none⟩ = some (.int .i64 p.num)
  c5 : W.cell? ⟨b, o + 5, none⟩ = some (.string ⟨p.s.toArray⟩)
  c6 : W.cell? ⟨b, o + 6, none⟩ = some (.slice a p.kids.length cap)
mutual
theorem PNode.mono {G G' : Nat → Prop} {W W' : World} (h : ∀ b o, G b → W'.cell? ⟨b, o, none⟩ = W.cell? ⟨b, o, none⟩) (hn : ∀ b, G b → G' b) : ∀ (p : P) (b o : Nat), G b → PNode G W p b o → PNode G' W' p b o
  | .mk k f t n nm s l, b, o, hb, hx => by
    simp only [PNode] at hx ⊢
    obtain ⟨h0, h1, h2, h3, h4, h5, h6, a, cap, h7, h8, h9, h10⟩ := hx
    exact ⟨h0, by rw [h _ _ hb]; exact h1, by rw [h _ _ hb]; exact h2, by rw [h _ _ hb]; exact h3, by rw [h _ _ hb]; exact h4, by rw [h _ _ hb]; exact h5, by rw [h _ _ hb]; exact h6, a, cap, by rw [h _ _ hb]; exact h7, h8, h9, PKids.mono h hn l a h10⟩
theorem PKids.mono {G G' : Nat → Prop} {W W' : World} (h : ∀ b o, G b → W'.cell? ⟨b, o, none⟩ = W.cell? ⟨b, o, none⟩) (hn : ∀ b, G b → G' b) : ∀ (l : List P) (a : Option Addr), PKids G W l a → PKids G' W' l a
  | [], _, _ => by simp [PKids]
  | p :: r, a, hx => by
    simp only [PKids] at hx ⊢
    obtain ⟨b, o, h1, h2, h3, h4⟩ := hx
    exact ⟨b, o, h1, hn b h2, PNode.mono h hn p b o h2 h3, PKids.mono h hn r _ h4⟩
end
theorem PatAt.below {G G' : Nat → Prop} {B : Nat} {W W' : World} {p : P} {a : Option Addr} {cap : Nat} (hx : PatAt G W p a cap) (hb : Below B W W') (hB : ∀ b, G b → b < B) (hn : ∀ b, G b → G' b) : PatAt G' W' p a cap :=
  ⟨hx.1, hx.2.1, hx.2.2.1, PKids.mono (fun b o h => hb.cell (p := ⟨b, o, none⟩) (hB b h)) hn _ a hx.2.2.2⟩
theorem pat_later {w w' : World} {p : P} {a : Option Addr} {cap : Nat} (h : PatAt (LT w.heap.size) w p a cap) (hb : Below w.heap.size w w') : PatAt (LT w'.heap.size) w' p a cap := h.below hb (fun _ h => h) (fun _ h => Nat.lt_of_lt_of_le h hb.size)
theorem PNode.pat {G : Nat → Prop} {W : World} {p : P} {b o : Nat} (h : PNode G W p b o) : ∃ a cap, PatAt G W p a cap ∧ PCells W b o p a cap := by
  cases p with
  | mk k f t n nm s l =>
    simp only [PNode] at h
    obtain ⟨h0, h1, h2, h3, h4, h5, h6, a, cap, h7, h8, h9, h10⟩ := h
    exact ⟨a, cap, ⟨h0, h8, h9, h10⟩, ⟨h1, h2, h3, h4, h5, h6, h7⟩⟩
theorem PNode.mk' {G : Nat → Prop} {W : World} {p : P} {b o : Nat} {a : Option Addr} {cap : Nat} (h : PatAt G W p a cap) (hc : PCells W b o p a cap) : PNode G W p b o := by
  cases p with
  | mk k f t n nm s l => simp only [PNode]; exact ⟨h.1, hc.c0, hc.c1, hc.c2, hc.c3, hc.c4, hc.c5, a, cap, hc.c6, h.2.1, h.2.2.1, h.2.2.2⟩
theorem PKids.nodes {G : Nat → Prop} {W : World} : ∀ (l : List P) (b o : Nat), PKids G W l (some ⟨b, o, none⟩) → ∀ i (h : i < l.length), PNode G W l[i] b (o + i * 7)
  | [], _, _, _, i, h => by simp at h
  | t :: r, b, o, hx, i, h => by
    simp only [PKids] at hx
    obtain ⟨b', o', h1, h2, h3, h4⟩ := hx
    injection h1 with h1
    injection h1 with h1 h1' h1''
    subst h1 h1'
    cases i with
    | zero => rw [Nat.zero_mul, Nat.add_zero]; exact h3
    | succ j =>
      have := PKids.nodes r b (o + 7) h4 j (by simpa using h)
      rw [show o + 7 + j * 7 = o + (j + 1) * 7 from by omega] at this
      exact this
theorem PKids.first {G : Nat → Prop} {W : World} {l : List P} {a : Option Addr} (h : PKids G W l a) (hl : 0 < l.length) : ∃ b o, a = some ⟨b, o, none⟩ ∧ G b ∧ ∀ i (h : i < l.length), PNode G W l[i] b (o + i * 7) := by
  cases l with
  | nil => simp at hl
  | cons t r =>
    have h' := h
    simp only [PKids] at h
    obtain ⟨b, o, h1, h2, h3, h4⟩ := h
    subst h1
    exact ⟨b, o, rfl, h2, PKids.nodes (t :: r) b o h'⟩
theorem PKids.of_nodes {G : Nat → Prop} {W : World} {b : Nat} (hb : G b) : ∀ (l : List P) (o : Nat), (∀ i (h : i < l.length), PNode G W l[i] b (o + i * 7)) → PKids G W l (some ⟨b, o, none⟩)
  | [], _, _ => by simp [PKids]
  | t :: r, o, h => by
    simp only [PKids]
    refine ⟨b, o, rfl, hb, by have := h 0 (Nat.succ_pos _); rw [Nat.zero_mul, Nat.add_zero] at this; exact this, PKids.of_nodes hb r (o + 7) (fun i hi => ?_)⟩
    have := h (i + 1) (by simpa using hi)
    rw [show o + (i + 1) * 7 = o + 7 + i * 7 from by omega] at this
    exact this
/-- What a loop over the kids reads. -/
theorem pkid_at {n : Nat} {w wr : World} {p : P} {a : Option Addr} {cap : Nat} (h : PatAt (LT n) w p a cap) (hb : Below n w wr) (hn : n ≤ w.heap.size) {k : Nat} (hk : k < p.kids.length) :
    ∃ b o xa xc, a = some ⟨b, o, none⟩ ∧ b < n ∧ PatAt (LT wr.heap.size) wr p.kids[k] xa xc ∧ PCells wr b (o + k * 7) p.kids[k] xa xc := by
  have h2 := h.below hb (fun _ h => h) (fun b h => (Nat.lt_of_lt_of_le h (Nat.le_trans hn hb.size) : b < wr.heap.size)) (G' := LT wr.heap.size)
  obtain ⟨b, o, rfl, hbn, hN⟩ := h2.2.2.2.first (by omega)
  obtain ⟨b1, o1, e1, hbn1, _⟩ := h.2.2.2.first (by omega)
  injection e1 with e1; injection e1 with e1 e2 e3
  obtain ⟨xa, xc, q1, q2⟩ := (hN k hk).pat
  exact ⟨b, o, xa, xc, rfl, by rw [e1]; exact hbn1, q1, q2⟩
end Go.Proofs.YtmmhpibkjdlkgaaGreat
namespace Go.Proofs.YtmmhpibkjdlkgaaGreat
open Go Go.RowKit
open Tr (P)

namespace Tr
mutual
/-- No name and no text is too long. -/
def short : P → Bool | .mk _ _ _ _ nm s l => decide (nm.length ≤ 300) && decide (s.length ≤ 300) && shorts l
def shorts : List P → Bool | [] => true | p :: r => short p && shorts r
end
mutual
theorem cnt_small : ∀ (p : P) (n : Nat), cnt p n ≤ 400 → short p = true ∧ cnt p n = n + sizes p.kids
  | .mk k f t x nm s l, n, h => by
    unfold cnt at h ⊢
    split at h
    · omega
    · rename_i hc
      rw [if_neg hc]
      obtain ⟨h1, h2⟩ := cnts_small l n h
      refine ⟨?_, h2⟩
      simp only [short, h1, Bool.and_true, Bool.and_eq_true, decide_eq_true_eq]
      omega
theorem cnts_small : ∀ (l : List P) (n : Nat), cnts l n ≤ 400 → shorts l = true ∧ cnts l n = n + sizes l
  | [], n, _ => ⟨rfl, rfl⟩
  | p :: r, n, h => by
    unfold cnts at h ⊢
    split at h
    · rename_i hn
      rw [if_pos hn]
      obtain ⟨h1, h2⟩ := cnts_small r _ h
      have h3 : cnt p (n + 1) ≤ 400 := by omega
      obtain ⟨h4, h5⟩ := cnt_small p (n + 1) h3
      refine ⟨by simp [shorts, h4, h1], ?_⟩
      rw [h2, h5]
      have := size_kids p
      simp only [sizes]
      omega
    · omega
end
end Tr
theorem ret_boolP {a b : Bool} (h : a = b) : Ending.returned (Value.bool a) = Ending.returned (Value.bool b) := by rw [h]
end Go.Proofs.YtmmhpibkjdlkgaaGreat
namespace Go.Proofs.YtmmhpibkjdlkgaaGreat
open Go Go.RowKit

theorem ret_bool {a b : Bool} (h : a = b) : Ending.returned (.bool a) = .returned (.bool b) := by rw [h]

set_option maxHeartbeats 400000 in
theorem lower_any (c : Int) (w : World) :
    Calls Tryz.prog 116 #[.int .u8 c] w fun e w' => e = .returned (.bool (Wd.lowI c)) ∧ w = w' := by
  by_cases h1 : 97 ≤ c <;> by_cases h2 : c ≤ 122 <;> go_enter Tryz.func116, Tryz.ntmps116 <;> go_wp2 <;> go_ret <;> exact ⟨ret_bool (by simp [Wd.lowI]; omega), rfl⟩

set_option maxHeartbeats 400000 in
theorem namebyte_any (c : Int) (w : World) :
    Calls Tryz.prog 117 #[.int .u8 c] w fun e w' => e = .returned (.bool (Wd.partI c)) ∧ w = w' := by
  go_enter Tryz.func117, Tryz.ntmps117
  go_wp2_with (go_at_call 116; refine (lower_any _ _).mono ?_; rintro e w' ⟨rfl, rfl⟩)
  all_goals go_ret
  all_goals exact ⟨ret_bool (by rw [Bool.eq_iff_iff]; simp [Wd.partI, *] <;> omega), rfl⟩

set_option maxHeartbeats 400000 in
theorem key_any (s : ByteArray) (w : World) :
    Calls Tryz.prog 118 #[.string s] w fun e w' => e = .returned (.bool (Wd.key s.data.toList)) ∧ w = w' := by
  rw [← ByteArray.toList_eq]
  go_enter Tryz.func118, Tryz.ntmps118
  go_wp2
  all_goals first | (exfalso; simp_all; done) | (go_ret; exact ⟨ret_bool (by simp only [Wd.key, Wd.keys, List.contains_cons, List.contains_nil, Bool.or_false, Bool.true_or, Bool.or_true, *]), rfl⟩)

set_option maxHeartbeats 400000 in
theorem name_any (s : ByteArray) (hs : s.size ≤ maxLen) (w : World) :
    Calls Tryz.prog 88 #[.string s] w fun e w' => e = .returned (.bool (Wd.name s.data.toList)) ∧ w = w' := by
  unfold maxLen at hs
  have hl : s.data.toList.length = s.size := by simp
  by_cases h0 : s.size = 0
  · have he : s.toList.isEmpty = true := by
      rw [ByteArray.toList_eq]; cases hc : s.data.toList with
      | nil => rfl
      | cons a r => rw [hc] at hl; simp at hl; omega
    have hn : Wd.name s.data.toList = false := by
      rw [ByteArray.toList_eq] at he
      cases hc : s.data.toList with
      | nil => rfl
      | cons a r => rw [hc] at he; simp at he
    have HN := Lib.hid hn; clear hn hl h0
    go_enter Tryz.func88, Tryz.ntmps88
    go_wp2_with fail
    go_ret
    exact ⟨ret_bool HN.out.symm, rfl⟩
  have hp : 0 < s.size := by omega
  have he : s.toList.isEmpty = false := by
    rw [ByteArray.toList_eq]; cases hc : s.data.toList with
    | nil => rw [hc] at hl; simp at hl; omega
    | cons a r => rfl
  have hlp : 0 < s.data.toList.length := by omega
  have hn := Wd.name_of s.data.toList hlp
  by_cases h1 : 32 < s.size
  · have hn2 : Wd.name s.data.toList = false := by rw [hn, hl, decide_eq_false (by omega)]; rfl
    have HN := Lib.hid hn2; clear hn2 hn hl h0 hlp
    go_enter Tryz.func88, Tryz.ntmps88
    go_wp2_with fail
    go_ret
    exact ⟨ret_bool HN.out.symm, rfl⟩
  have hle : s.size ≤ 32 := by omega
  rw [hl, decide_eq_true hle] at hn
  by_cases h2 : Wd.lowI (s[0].toNat) = true
  · have hn2 : Wd.name s.data.toList = ((s.data.toList.drop 1).all Wd.part && !Wd.key s.data.toList) := by
      rw [hn, show Wd.low s.data.toList[0] = true from h2]; simp
    have HN := Lib.hid hn2; have HL := Lib.hid hl; clear hn hn2 hl h0 h1
    go_enter Tryz.func88, Tryz.ntmps88
    go_wp2_with (go_at_call 116; refine (lower_any _ _).mono ?_; rintro e w' ⟨rfl, rfl⟩)
    go_loop [3] (fun i => ∃ k : Nat, 1 ≤ k ∧ k ≤ s.size ∧ i = .int .i64 k ∧ ((s.data.toList.take k).drop 1).all Wd.part = true) (fun i => s.size - (intOf i).toNat)
    case atStart => exact ⟨1, by omega, by omega, rfl, Wd.start_all _ _⟩
    case round =>
      obtain ⟨k, hk1, hk2, rfl, hall⟩ := hrel
      have HA := Lib.hid hall; clear hall
      by_cases hlt : k < s.size
      · have hlt' : k < s.data.toList.length := by rw [HL.out]; exact hlt
        by_cases hq : Wd.partI (s[k].toNat) = true
        · have hstep : ((s.data.toList.take (k + 1)).drop 1).all Wd.part = true := by
            rw [Wd.drop1_snoc _ k hk1 hlt', HA.out, show Wd.part s.data.toList[k] = true from hq]; rfl
          have HS := Lib.hid hstep; clear hstep
          go_wp2_with (go_at_call 117; refine (namebyte_any _ _).mono ?_; rintro e w' ⟨rfl, rfl⟩)
          go_round
          case rel => exact ⟨k + 1, by omega, by omega, by go_num, HS.out⟩
          case measure => simp [intOf]; omega
        · have hq' : Wd.partI (s[k].toNat) = false := by simpa using hq
          have hno : Wd.name s.data.toList = false := by
            rw [HN.out, Wd.all_no _ k hk1 hlt' _ (show Wd.part s.data.toList[k] = false from hq')]; rfl
          have HF := Lib.hid hno; clear hno hq
          go_wp2_with (go_at_call 117; refine (namebyte_any _ _).mono ?_; rintro e w' ⟨rfl, rfl⟩)
          go_ret
          exact ⟨ret_bool HF.out.symm, rfl⟩
      · have hfin : Wd.name s.data.toList = !Wd.key s.data.toList := by
          rw [HN.out]
          have h := HA.out
          rw [List.take_of_length_le (by rw [HL.out]; omega)] at h
          rw [h]; simp
        have HF := Lib.hid hfin; clear hfin
        go_wp2_with (go_at_call 118; refine (key_any _ _).mono ?_; rintro e w' ⟨rfl, rfl⟩)
        go_ret
        exact ⟨ret_bool HF.out.symm, rfl⟩
  · have h2' : Wd.lowI (s[0].toNat) = false := by simpa using h2
    have hn2 : Wd.name s.data.toList = false := by
      rw [hn, show Wd.low s.data.toList[0] = false from h2']; rfl
    have HN := Lib.hid hn2; clear hn hn2 hl h0 h1 h2
    go_enter Tryz.func88, Tryz.ntmps88
    go_wp2_with (go_at_call 116; refine (lower_any _ _).mono ?_; rintro e w' ⟨rfl, rfl⟩)
    go_ret
    exact ⟨ret_bool HN.out.symm, rfl⟩
end Go.Proofs.YtmmhpibkjdlkgaaGreat
namespace Go.Proofs.YtmmhpibkjdlkgaaGreat
open Go Go.RowKit
open Tr (P)

set_option maxRecDepth 100000 in
theorem truth_any (x : Int) (w : World) : Calls Tryz.prog 89 #[.int .i64 x] w fun e w' => e = .returned (.bool (decide (0 ≤ x ∧ x ≤ 1))) ∧ w = w' := by
  by_cases h0 : x = 0
  · subst h0
    go_enter Tryz.func89, Tryz.ntmps89
    go_wp2_with fail
    go_ret
    exact ⟨rfl, rfl⟩
  · have g0 : (x == 0) = false := by simp [h0]
    by_cases h1 : x = 1
    · subst h1
      go_enter Tryz.func89, Tryz.ntmps89
      go_wp2_with fail
      go_ret
      exact ⟨rfl, rfl⟩
    · have g1 : (x == 1) = false := by simp [h1]
      go_enter Tryz.func89, Tryz.ntmps89
      go_wp2_with fail
      go_ret
      refine ⟨ret_boolP ?_, rfl⟩
      rw [decide_eq_false (show ¬ (0 ≤ x ∧ x ≤ 1) by omega)]
set_option maxRecDepth 100000 in
set_option maxHeartbeats 16000000 in
theorem rightPat_any (p : P) (a : Option Addr) (cap : Nat) (w : World) (hnl : p.nm.length ≤ 1000) (hm2 : p.kids.length ≤ maxLen) :
    Calls Tryz.prog 81 #[pv p a cap] w fun e w' => e = .returned (.bool (Tr.nodeRight p.kind p.num p.nm p.s p.kids.length)) ∧ Below w.heap.size w w' := by
  obtain ⟨k, f, t, x, nm, s, l⟩ := p
  unfold pv
  simp only [Tr.P.kind, Tr.P.frm, Tr.P.til, Tr.P.num, Tr.P.nm, Tr.P.s, Tr.P.kids] at hnl hm2 ⊢
  obtain ⟨m, hm⟩ : ∃ m, l.length = m := ⟨_, rfl⟩
  rw [hm] at hm2 ⊢
  have hna : ∀ w, Calls Tryz.prog 88 #[.string ⟨nm.toArray⟩] w fun e w' => e = .returned (.bool (Wd.name nm)) ∧ w = w' := fun w => name_any ⟨nm.toArray⟩ (by show nm.toArray.size ≤ maxLen; rw [List.size_toArray]; unfold maxLen; omega) w
  obtain ⟨bn, hbn⟩ : ∃ b, Wd.name nm = b := ⟨_, rfl⟩
  rw [hbn] at hna
  have htr := fun w => truth_any x w
  have hb0 : Below w.heap.size w (w.alloc (.cells #[.int .i64 k, .int .i64 f, .int .i64 t, .string ⟨nm.toArray⟩, .int .i64 x, .string ⟨s.toArray⟩, .slice a m cap] 50)) := (Below.refl _ _).alloc (Nat.le_refl _) _
  have HNA := Lib.hid hna; have HBN := Lib.hid hbn; have HTR := Lib.hid htr; have HAL := Lib.hid (fun o : Obj => ((Below.refl w.heap.size w).alloc (Nat.le_refl _) o))
  clear hna hbn htr hb0 hm
  by_cases hk : k = 1 ∨ k = 2 ∨ k = 3 ∨ k = 4 ∨ k = 5 ∨ k = 6 ∨ k = 7 ∨ k = 8 ∨ k = 9
  case neg =>
    have hno : Tr.nodeRight k x nm s m = false := by
      unfold Tr.nodeRight Tr.parity
      rw [if_neg (by omega), if_neg (by omega)]
      have h1 : decide ((-1 : Int) = (m : Int)) = false := by rw [decide_eq_false_iff_not]; omega
      rw [h1]
      rfl
    rw [hno]
    have g1 : (k == 1) = false := by simp; omega
    have g2 : (k == 2) = false := by simp; omega
    have g3 : (k == 3) = false := by simp; omega
    have g4 : (k == 4) = false := by simp; omega
    have g5 : (k == 5) = false := by simp; omega
    have g6 : (k == 6) = false := by simp; omega
    have g7 : (k == 7) = false := by simp; omega
    have g8 : (k == 8) = false := by simp; omega
    have g9 : (k == 9) = false := by simp; omega
    clear hk
    go_enter Tryz.func81, Tryz.ntmps81
    go_wp2_with fail
    go_ret
    exact ⟨rfl, HAL.out _⟩
  case pos =>
    rcases hk with rfl | rfl | rfl | rfl | rfl | rfl | rfl | rfl | rfl
    · go_enter Tryz.func81, Tryz.ntmps81
      by_cases h1 : m = 0
      case neg =>
        have g1 : ((m : Int) == 0) = false := by simp; omega
        have g5 : ¬ ((0 : Int) = (m : Int)) := by omega
        go_wp2_with fail
        go_ret
        exact ⟨ret_boolP (by simp [Tr.nodeRight, Tr.parity, g5]), HAL.out _⟩
      subst h1
      by_cases h2 : nm = []
      case neg =>
        have g2 : (nm == []) = false := by simp [h2]
        go_wp2_with fail
        go_ret
        exact ⟨ret_boolP (by simp [Tr.nodeRight, Tr.parity, h2]), HAL.out _⟩
      subst h2
      by_cases h3 : x = 0
      case neg =>
        have g3 : (x == 0) = false := by simp [h3]
        go_wp2_with fail
        go_ret
        exact ⟨ret_boolP (by simp [Tr.nodeRight, Tr.parity, h3]), HAL.out _⟩
      subst h3
      by_cases h4 : s = []
      case neg =>
        have g4 : (s == []) = false := by simp [h4]
        go_wp2_with fail
        go_ret
        exact ⟨ret_boolP (by simp [Tr.nodeRight, Tr.parity, h4]), HAL.out _⟩
      subst h4
      go_wp2_with fail
      go_ret
      exact ⟨ret_boolP (by simp [Tr.nodeRight, Tr.parity]), HAL.out _⟩
    · go_enter Tryz.func81, Tryz.ntmps81
      go_wp2_with fail
      refine (HNA.out _).mono ?_
      rintro e w1 ⟨rfl, rfl⟩
      cases bn with
      | false =>
        have hbn := HBN.out
        go_wp2_with fail
        go_ret
        exact ⟨ret_boolP (by simp [Tr.nodeRight, Tr.parity, hbn]), HAL.out _⟩
      | true =>
        have hbn := HBN.out
        by_cases h1 : m = 0
        case neg =>
          have g1 : ((m : Int) == 0) = false := by simp; omega
          have g5 : ¬ ((0 : Int) = (m : Int)) := by omega
          go_wp2_with fail
          go_ret
          exact ⟨ret_boolP (by simp [Tr.nodeRight, Tr.parity, g5]), HAL.out _⟩
        subst h1
        by_cases h3 : x = 0
        case neg =>
          have g3 : (x == 0) = false := by simp [h3]
          go_wp2_with fail
          go_ret
          exact ⟨ret_boolP (by simp [Tr.nodeRight, Tr.parity, h3]), HAL.out _⟩
        subst h3
        by_cases h4 : s = []
        case neg =>
          have g4 : (s == []) = false := by simp [h4]
          go_wp2_with fail
          go_ret
          exact ⟨ret_boolP (by simp [Tr.nodeRight, Tr.parity, h4]), HAL.out _⟩
        subst h4
        go_wp2_with fail
        go_ret
        exact ⟨ret_boolP (by simp [Tr.nodeRight, Tr.parity, hbn]), HAL.out _⟩
    · go_enter Tryz.func81, Tryz.ntmps81
      by_cases h1 : m = 0
      case neg =>
        have g1 : ((m : Int) == 0) = false := by simp; omega
        have g5 : ¬ ((0 : Int) = (m : Int)) := by omega
        go_wp2_with fail
        go_ret
        exact ⟨ret_boolP (by simp [Tr.nodeRight, Tr.parity, g5]), HAL.out _⟩
      subst h1
      by_cases h2 : nm = []
      case neg =>
        have g2 : (nm == []) = false := by simp [h2]
        go_wp2_with fail
        go_ret
        exact ⟨ret_boolP (by simp [Tr.nodeRight, Tr.parity, h2]), HAL.out _⟩
      subst h2
      by_cases h4 : s = []
      case neg =>
        have g4 : (s == []) = false := by simp [h4]
        go_wp2_with fail
        go_ret
        exact ⟨ret_boolP (by simp [Tr.nodeRight, Tr.parity, h4]), HAL.out _⟩
      subst h4
      go_wp2_with fail
      go_ret
      exact ⟨ret_boolP (by simp [Tr.nodeRight, Tr.parity]), HAL.out _⟩
    · go_enter Tryz.func81, Tryz.ntmps81
      go_wp2_with fail
      refine (HTR.out _).mono ?_
      rintro e w1 ⟨rfl, rfl⟩
      obtain ⟨b4, hb4⟩ : ∃ b, decide (0 ≤ x ∧ x ≤ 1) = b := ⟨_, rfl⟩
      rw [hb4]
      cases b4 with
      | false =>
        go_wp2_with fail
        go_ret
        exact ⟨ret_boolP (by simp [Tr.nodeRight, Tr.parity, hb4]), HAL.out _⟩
      | true =>
        by_cases h1 : m = 0
        case neg =>
          have g1 : ((m : Int) == 0) = false := by simp; omega
          have g5 : ¬ ((0 : Int) = (m : Int)) := by omega
          go_wp2_with fail
          go_ret
          exact ⟨ret_boolP (by simp [Tr.nodeRight, Tr.parity, g5]), HAL.out _⟩
        subst h1
        by_cases h2 : nm = []
        case neg =>
          have g2 : (nm == []) = false := by simp [h2]
          go_wp2_with fail
          go_ret
          exact ⟨ret_boolP (by simp [Tr.nodeRight, Tr.parity, h2]), HAL.out _⟩
        subst h2
        by_cases h4 : s = []
        case neg =>
          have g4 : (s == []) = false := by simp [h4]
          go_wp2_with fail
          go_ret
          exact ⟨ret_boolP (by simp [Tr.nodeRight, Tr.parity, h4]), HAL.out _⟩
        subst h4
        go_wp2_with fail
        go_ret
        exact ⟨ret_boolP (by simp [Tr.nodeRight, Tr.parity, hb4]), HAL.out _⟩
    · go_enter Tryz.func81, Tryz.ntmps81
      by_cases hs5 : s.length ≤ 200
      case neg =>
        have hs7 : ¬ (s.length : Int) ≤ 200 := by omega
        have hs6 : decide (s.length ≤ 200) = false := decide_eq_false hs5
        go_wp2_with fail
        go_ret
        exact ⟨ret_boolP (by simp [Tr.nodeRight, Tr.parity, hs6]), HAL.out _⟩
      have hs7 : (s.length : Int) ≤ 200 := by omega
      have hs6 : decide (s.length ≤ 200) = true := decide_eq_true hs5
      by_cases h1 : m = 0
      case neg =>
        have g1 : ((m : Int) == 0) = false := by simp; omega
        have g5 : ¬ ((0 : Int) = (m : Int)) := by omega
        go_wp2_with fail
        go_ret
        exact ⟨ret_boolP (by simp [Tr.nodeRight, Tr.parity, g5]), HAL.out _⟩
      subst h1
      by_cases h2 : nm = []
      case neg =>
        have g2 : (nm == []) = false := by simp [h2]
        go_wp2_with fail
        go_ret
        exact ⟨ret_boolP (by simp [Tr.nodeRight, Tr.parity, h2]), HAL.out _⟩
      subst h2
      by_cases h3 : x = 0
      case neg =>
        have g3 : (x == 0) = false := by simp [h3]
        go_wp2_with fail
        go_ret
        exact ⟨ret_boolP (by simp [Tr.nodeRight, Tr.parity, h3]), HAL.out _⟩
      subst h3
      go_wp2_with fail
      go_ret
      exact ⟨ret_boolP (by simp [Tr.nodeRight, Tr.parity, hs6]), HAL.out _⟩
    · go_enter Tryz.func81, Tryz.ntmps81
      by_cases h1 : m = 0
      case neg =>
        have g1 : ((m : Int) == 0) = false := by simp; omega
        have g5 : ¬ ((0 : Int) = (m : Int)) := by omega
        go_wp2_with fail
        go_ret
        exact ⟨ret_boolP (by simp [Tr.nodeRight, Tr.parity, g5]), HAL.out _⟩
      subst h1
      by_cases h2 : nm = []
      case neg =>
        have g2 : (nm == []) = false := by simp [h2]
        go_wp2_with fail
        go_ret
        exact ⟨ret_boolP (by simp [Tr.nodeRight, Tr.parity, h2]), HAL.out _⟩
      subst h2
      by_cases h3 : x = 0
      case neg =>
        have g3 : (x == 0) = false := by simp [h3]
        go_wp2_with fail
        go_ret
        exact ⟨ret_boolP (by simp [Tr.nodeRight, Tr.parity, h3]), HAL.out _⟩
      subst h3
      by_cases h4 : s = []
      case neg =>
        have g4 : (s == []) = false := by simp [h4]
        go_wp2_with fail
        go_ret
        exact ⟨ret_boolP (by simp [Tr.nodeRight, Tr.parity, h4]), HAL.out _⟩
      subst h4
      go_wp2_with fail
      go_ret
      exact ⟨ret_boolP (by simp [Tr.nodeRight, Tr.parity]), HAL.out _⟩
    · go_enter Tryz.func81, Tryz.ntmps81
      by_cases h1 : m = 2
      case neg =>
        have g1 : ((m : Int) == 2) = false := by simp; omega
        have g5 : ¬ ((2 : Int) = (m : Int)) := by omega
        go_wp2_with fail
        go_ret
        exact ⟨ret_boolP (by simp [Tr.nodeRight, Tr.parity, g5]), HAL.out _⟩
      subst h1
      by_cases h2 : nm = []
      case neg =>
        have g2 : (nm == []) = false := by simp [h2]
        go_wp2_with fail
        go_ret
        exact ⟨ret_boolP (by simp [Tr.nodeRight, Tr.parity, h2]), HAL.out _⟩
      subst h2
      by_cases h3 : x = 0
      case neg =>
        have g3 : (x == 0) = false := by simp [h3]
        go_wp2_with fail
        go_ret
        exact ⟨ret_boolP (by simp [Tr.nodeRight, Tr.parity, h3]), HAL.out _⟩
      subst h3
      by_cases h4 : s = []
      case neg =>
        have g4 : (s == []) = false := by simp [h4]
        go_wp2_with fail
        go_ret
        exact ⟨ret_boolP (by simp [Tr.nodeRight, Tr.parity, h4]), HAL.out _⟩
      subst h4
      go_wp2_with fail
      go_ret
      exact ⟨ret_boolP (by simp [Tr.nodeRight, Tr.parity]), HAL.out _⟩
    · go_enter Tryz.func81, Tryz.ntmps81
      by_cases h1 : m = 0
      case neg =>
        have g1 : ((m : Int) == 0) = false := by simp; omega
        have g5 : ¬ ((0 : Int) = (m : Int)) := by omega
        go_wp2_with fail
        go_ret
        exact ⟨ret_boolP (by simp [Tr.nodeRight, Tr.parity, g5]), HAL.out _⟩
      subst h1
      by_cases h2 : nm = []
      case neg =>
        have g2 : (nm == []) = false := by simp [h2]
        go_wp2_with fail
        go_ret
        exact ⟨ret_boolP (by simp [Tr.nodeRight, Tr.parity, h2]), HAL.out _⟩
      subst h2
      by_cases h3 : x = 0
      case neg =>
        have g3 : (x == 0) = false := by simp [h3]
        go_wp2_with fail
        go_ret
        exact ⟨ret_boolP (by simp [Tr.nodeRight, Tr.parity, h3]), HAL.out _⟩
      subst h3
      by_cases h4 : s = []
      case neg =>
        have g4 : (s == []) = false := by simp [h4]
        go_wp2_with fail
        go_ret
        exact ⟨ret_boolP (by simp [Tr.nodeRight, Tr.parity, h4]), HAL.out _⟩
      subst h4
      go_wp2_with fail
      go_ret
      exact ⟨ret_boolP (by simp [Tr.nodeRight, Tr.parity]), HAL.out _⟩
    · go_enter Tryz.func81, Tryz.ntmps81
      by_cases h1 : m = 2
      case neg =>
        have g1 : ((m : Int) == 2) = false := by simp; omega
        have g5 : ¬ ((2 : Int) = (m : Int)) := by omega
        go_wp2_with fail
        go_ret
        exact ⟨ret_boolP (by simp [Tr.nodeRight, Tr.parity, g5]), HAL.out _⟩
      subst h1
      by_cases h2 : nm = []
      case neg =>
        have g2 : (nm == []) = false := by simp [h2]
        go_wp2_with fail
        go_ret
        exact ⟨ret_boolP (by simp [Tr.nodeRight, Tr.parity, h2]), HAL.out _⟩
      subst h2
      by_cases h3 : x = 0
      case neg =>
        have g3 : (x == 0) = false := by simp [h3]
        go_wp2_with fail
        go_ret
        exact ⟨ret_boolP (by simp [Tr.nodeRight, Tr.parity, h3]), HAL.out _⟩
      subst h3
      by_cases h4 : s = []
      case neg =>
        have g4 : (s == []) = false := by simp [h4]
        go_wp2_with fail
        go_ret
        exact ⟨ret_boolP (by simp [Tr.nodeRight, Tr.parity, h4]), HAL.out _⟩
      subst h4
      go_wp2_with fail
      go_ret
      exact ⟨ret_boolP (by simp [Tr.nodeRight, Tr.parity]), HAL.out _⟩
end Go.Proofs.YtmmhpibkjdlkgaaGreat
