/- Plain facts on the texts of types, and on the pieces that a stack holds while one is written. -/
import Derived.Test.YtideicoifinnoaaGreatDoorTpP
import Derived.Test.YtideicoifinnoaaGreatDoorLexQ
namespace Go.Proofs.YtideicoifinnoaaGreatDoor
open Tp (T)
namespace Nt

def sInt : List UInt8 := [105, 110, 116]
def sBool : List UInt8 := [98, 111, 111, 108]
def sStr : List UInt8 := [115, 116, 114, 105, 110, 103]
def sUnit : List UInt8 := [117, 110, 105, 116]
def sDyn : List UInt8 := [63]
def sList : List UInt8 := [32, 108, 105, 115, 116]
def sep (k : Int) : List UInt8 := if k = 7 then [32, 42, 32] else if k = 9 then [32, 45, 62, 32] else []
/-- The text of a leaf; of what is none: nothing. -/
def leafTx (k n : Int) : List UInt8 :=
  if k = 1 then sInt else if k = 2 then sBool else if k = 3 then sStr else if k = 4 then sUnit else if k = 5 then sDyn else if k = 6 then 39 :: Wd.num n else []
def glue (k n : Int) : List (List UInt8) → List UInt8
  | [] => leafTx k n
  | [x] => x ++ sList
  | x :: y :: _ => x ++ (sep k ++ y)
def paren (b : Bool) (s : List UInt8) : List UInt8 := if b then s else 40 :: (s ++ [41])
mutual
/-- The text of a type. -/
def text : T → List UInt8
  | .mk k n l => glue k n (inners l)
def inners : List T → List (List UInt8)
  | [] => []
  | t :: r => paren t.kids.isEmpty (text t) :: inners r
end
def inner (t : T) : List UInt8 := paren t.kids.isEmpty (text t)
theorem text_leaf (k n : Int) : text (.mk k n []) = leafTx k n := by simp [text, inners, glue]
theorem text_one (k n : Int) (x : T) : text (.mk k n [x]) = inner x ++ sList := by simp [text, inners, glue, inner]
theorem text_two (k n : Int) (x y : T) : text (.mk k n [x, y]) = inner x ++ (sep k ++ inner y) := by simp [text, inners, glue, inner]

/-- A piece: a type (or none), where its kids lie, a text. -/
structure Pc where
  t : T
  a : Option Addr
  cap : Nat
  s : List UInt8
def noT : T := .mk 0 0 []
def txt (s : List UInt8) : Pc := ⟨noT, none, 0, s⟩
def enc (t : T) (a : Option Addr) (cap : Nat) : List Pc := if t.kids.isEmpty then [⟨t, a, cap, []⟩] else [txt [40], ⟨t, a, cap, []⟩, txt [41]]
/-- What a piece says. -/
def ren (p : Pc) : List UInt8 := p.s ++ text p.t
def rens (l : List Pc) : List UInt8 := l.flatMap ren
theorem rens_nil : rens [] = [] := rfl
theorem rens_cons (p : Pc) (l : List Pc) : rens (p :: l) = ren p ++ rens l := by simp [rens]
theorem rens_append (l m : List Pc) : rens (l ++ m) = rens l ++ rens m := by simp [rens]
theorem text_noT : text noT = [] := by simp [noT, text_leaf, leafTx]
theorem ren_txt (s : List UInt8) : ren (txt s) = s := by simp [ren, txt, text_noT]
theorem ren_ty (t : T) (a : Option Addr) (cap : Nat) : ren ⟨t, a, cap, []⟩ = text t := by simp [ren]
theorem rens_enc (t : T) (a : Option Addr) (cap : Nat) : rens (enc t a cap) = inner t := by
  unfold enc inner paren
  split
  · simp [rens_cons, rens_nil, ren_ty]
  · simp [rens_cons, rens_nil, ren_ty, ren_txt]
/-- How much is left to do with a piece. -/
def wt (p : Pc) : Nat := if p.t.kids.isEmpty then 1 else 8 * Tp.size p.t
def wts (l : List Pc) : Nat := (l.map wt).sum
theorem wts_nil : wts [] = 0 := rfl
theorem wts_cons (p : Pc) (l : List Pc) : wts (p :: l) = wt p + wts l := by simp [wts]
theorem wts_append (l m : List Pc) : wts (l ++ m) = wts l + wts m := by simp [wts]
theorem wt_pos (p : Pc) : 0 < wt p := by unfold wt; have := Tp.size_pos p.t; split <;> omega
theorem len_wts : ∀ l : List Pc, l.length ≤ wts l
  | [] => by simp [wts]
  | p :: r => by have := wt_pos p; have := len_wts r; rw [wts_cons, List.length_cons]; omega
theorem wt_txt (s : List UInt8) : wt (txt s) = 1 := by simp [wt, txt, noT, Tp.T.kids]
theorem wts_enc (t : T) (a : Option Addr) (cap : Nat) : wts (enc t a cap) ≤ 2 + 8 * Tp.size t := by
  have h1 := Tp.size_pos t
  unfold enc
  by_cases h : t.kids.isEmpty
  · simp [h, wts_cons, wts_nil, wt]; omega
  · simp [h, wts_cons, wts_nil, wt_txt]
    simp [wt, h]; omega
/-- How long a text may be. -/
theorem leaf_len (k n : Int) (hn : Wd.inI64 n) : (leafTx k n).length ≤ 22 := by
  unfold leafTx sInt sBool sStr sUnit sDyn
  have := Wd.num_len n hn
  repeat' split
  all_goals simp
  omega
theorem sep_len (k : Int) : (sep k).length ≤ 4 := by
  unfold sep
  split
  · simp
  · split <;> simp
theorem paren_len (b : Bool) (s : List UInt8) : (paren b s).length ≤ s.length + 2 := by unfold paren; split <;> simp
mutual
/-- Every number in it fits. -/
def fits : T → Prop | .mk _ n l => Wd.inI64 n ∧ fitss l
def fitss : List T → Prop | [] => True | t :: r => fits t ∧ fitss r
end
theorem glue_len (k n : Int) (hn : Wd.inI64 n) : ∀ l : List (List UInt8), (glue k n l).length ≤ (l.map List.length).sum + 22
  | [] => by simpa [glue] using leaf_len k n hn
  | [x] => by simp [glue, sList]
  | x :: y :: r => by have := sep_len k; simp [glue]; omega
mutual
theorem text_len : ∀ t : T, fits t → (text t).length + 20 ≤ 42 * Tp.size t
  | .mk k n l, h => by
    have h1 := glue_len k n h.1 (inners l)
    have h2 := inners_len l h.2
    simp only [text, Tp.size]
    omega
theorem inners_len : ∀ l : List T, fitss l → ((inners l).map List.length).sum ≤ 42 * Tp.sizes l
  | [], _ => by simp [inners, Tp.sizes]
  | t :: r, h => by
    have h1 := text_len t h.1
    have h2 := inners_len r h.2
    have h3 := paren_len t.kids.isEmpty (text t)
    simp only [inners, List.map_cons, List.sum_cons, Tp.sizes]
    omega
end
end Nt
end Go.Proofs.YtideicoifinnoaaGreatDoor
