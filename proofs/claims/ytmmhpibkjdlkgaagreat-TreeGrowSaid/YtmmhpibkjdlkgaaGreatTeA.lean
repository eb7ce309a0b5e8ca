/- The law's count of a pattern; the page's Names and Has. Rows of names; the page's Names, Has. The page's Names, Has, pat, RightPat. suretykeep.Texts: are two rows of names alike? The sample's own 'name'. -/
import Derived.Test.YtmmhpibkjdlkgaaGreatPure
import Derived.Test.YtmmhpibkjdlkgaaGreatTrA
import Derived.Test.YtmmhpibkjdlkgaaGreatTrC
import Derived.Deep.LoopGhost
import Derived.IntWalk
import Derived.Test.YtmmhpibkjdlkgaaGreatTpP
import Derived.Deep.AppendLies
import Derived.BigQuiet
import Derived.Laws.ResultCell
import Derived.Test.YtmmhpibkjdlkgaaGreatTxA
namespace Go.Proofs.YtmmhpibkjdlkgaaGreat
open Go Go.RowKit
open Tr (P)

namespace Tr
mutual
theorem cnt_le : ∀ (p : P) (n : Nat), cnt p n ≤ max n 401
  | .mk _ _ _ _ nm s l, n => by
    unfold cnt
    split
    · omega
    · exact cnts_le l n
theorem cnts_le : ∀ (l : List P) (n : Nat), cnts l n ≤ max n 401
  | [], n => by unfold cnts; omega
  | p :: r, n => by
    unfold cnts
    split
    · have h1 := cnt_le p (n + 1)
      have h2 := cnts_le r (cnt p (n + 1))
      omega
    · omega
end
theorem cnts_stop {l : List P} {n : Nat} (h : ¬ n ≤ 400) : cnts l n = n := by
  cases l with
  | nil => rfl
  | cons p r => unfold cnts; rw [if_neg h]
theorem cnts_drop {l : List P} {k n : Nat} (hk : k < l.length) (hn : n ≤ 400) : cnts (l.drop k) n = cnts (l.drop (k + 1)) (cnt l[k] (n + 1)) := by
  rw [List.drop_eq_getElem_cons hk, cnts, if_pos hn]
end Tr
/-- A pattern's box. -/
theorem pbox {w w' : World} {x0 x1 x2 x3 x4 x5 x6 : Value} {fz : Nat × Nat} {b : Nat} (h : w.heap[b]? = some (.cells #[x0, x1, x2, x3, x4, x5, x6] 50 fz)) (hb : w'.heap[b]? = w.heap[b]?) :
    w'.cell? ⟨b, 0, none⟩ = some x0 ∧ w'.cell? ⟨b, 1, none⟩ = some x1 ∧ w'.cell? ⟨b, 2, none⟩ = some x2 ∧ w'.cell? ⟨b, 3, none⟩ = some x3 ∧ w'.cell? ⟨b, 4, none⟩ = some x4 ∧ w'.cell? ⟨b, 5, none⟩ = some x5 ∧ w'.cell? ⟨b, 6, none⟩ = some x6 := by
  have h' := hb.trans h
  refine ⟨?_, ?_, ?_, ?_, ?_, ?_, ?_⟩ <;> (rw [Lib.cell_of_heap h']; rfl)
set_option maxRecDepth 100000 in
set_option maxHeartbeats 4000000 in
theorem countPat_any : ∀ (sz : Nat) (p : P) (a : Option Addr) (cap n : Nat) (w : World), Tr.size p ≤ sz → n ≤ 401 → PatAt (LT w.heap.size) w p a cap →
    Calls Tryz.prog 77 #[pv p a cap, .int .i64 (n : Int)] w fun e w' => e = .returned (.int .i64 (Tr.cnt p n : Int)) ∧ Below w.heap.size w w' := by
  intro sz
  induction sz with
  | zero => intro p a cap n w h; have := Tr.size_pos p; omega
  | succ sz ih =>
    intro p a cap n w hn hc hp
    obtain ⟨k, f, t, x, nm, s, l⟩ := p
    obtain ⟨m, hm⟩ : ∃ m, l.length = m := ⟨_, rfl⟩
    have hm2 : (m : Int) ≤ 9223372036854775807 := by have h1 := hp.2.1; have h2 := hp.2.2.1; simp only [Tr.P.kids] at h1; unfold maxLen at h2; omega
    unfold pv
    simp only [Tr.P.kind, Tr.P.frm, Tr.P.til, Tr.P.num, Tr.P.nm, Tr.P.s, Tr.P.kids]
    rw [hm]
    have hnew := World.alloc_heap_new w (.cells #[.int .i64 k, .int .i64 f, .int .i64 t, .string ⟨nm.toArray⟩, .int .i64 x, .string ⟨s.toArray⟩, .slice a m cap] 50)
    have hb0 : Below w.heap.size w (w.alloc (.cells #[.int .i64 k, .int .i64 f, .int .i64 t, .string ⟨nm.toArray⟩, .int .i64 x, .string ⟨s.toArray⟩, .slice a m cap] 50)) := (Below.refl _ _).alloc (Nat.le_refl _) _
    generalize hw1 : w.alloc (.cells #[.int .i64 k, .int .i64 f, .int .i64 t, .string ⟨nm.toArray⟩, .int .i64 x, .string ⟨s.toArray⟩, .slice a m cap] 50) = w1 at hnew hb0
    obtain ⟨c0, c1, c2, c3, c4, c5, c6⟩ := pbox hnew rfl
    have hs1 : w1.heap.size = w.heap.size + 1 := by rw [← hw1]; simp
    simp only [Tr.size] at hn
    have HP := Lib.hid hp; have HN := Lib.hid hn; have HC := Lib.hid hc; have HM := Lib.hid hm; have HW1 := Lib.hid hw1; have HNEW := Lib.hid hnew; have HB0 := Lib.hid hb0; have IH := Lib.hid ih; have HS1 := Lib.hid hs1
    clear hp hn hc hm hw1 hnew hb0 ih hs1
    by_cases hbig : 300 < s.length ∨ 300 < nm.length
    · have hr : Tr.cnt (.mk k f t x nm s l) n = 401 := by unfold Tr.cnt; rw [if_pos hbig]
      rw [hr]
      by_cases h1 : 300 < s.length
      · have h1' : (s.length : Int) > 300 := by omega
        clear hbig hr
        go_enter Tryz.func77, Tryz.ntmps77
        go_upto_region 1 with fail
        rw [HW1.out]
        go_wp2_with fail
        go_ret
        exact ⟨rfl, HB0.out⟩
      · have h1' : ¬ (s.length : Int) > 300 := by omega
        have h2' : (nm.length : Int) > 300 := by omega
        clear hbig hr
        go_enter Tryz.func77, Tryz.ntmps77
        go_upto_region 1 with fail
        rw [HW1.out]
        go_wp2_with fail
        go_ret
        exact ⟨rfl, HB0.out⟩
    · have hr : Tr.cnt (.mk k f t x nm s l) n = Tr.cnts l n := by unfold Tr.cnt; rw [if_neg hbig]
      rw [hr]
      have h1' : ¬ (s.length : Int) > 300 := by omega
      have h2' : ¬ (nm.length : Int) > 300 := by omega
      clear hbig hr
      go_enter Tryz.func77, Tryz.ntmps77
      go_upto_region 1 with fail
      rw [HW1.out]
      go_upto_region 4 with fail
      clear c0 c1 c2 c3 c4 c5 c6
      go_loopg [1, 5] m (fun gk v1 v5 wr => ∃ (c i : Nat), v1 = .int .i64 (c : Int) ∧ v5 = .int .i64 (i : Int) ∧ i ≤ m ∧ c ≤ 401 ∧ Tr.cnts (l.drop i) c = Tr.cnts l n ∧ Below w1.heap.size w1 wr ∧ gk = m - i)
      case atStart => exact ⟨n, 0, rfl, rfl, Nat.zero_le _, HC.out, by rw [List.drop_zero], Below.refl _ _, rfl⟩
      case round =>
        obtain ⟨c, i, rfl, rfl, hi, hc, hcn, hb, rfl⟩ := hrel
        obtain ⟨c0, c1, c2, c3, c4, c5, c6⟩ := pbox HNEW.out (hb.block w.heap.size (by have := HS1.out; omega))
        have hbw : Below w.heap.size w wr := HB0.out.trans (hb.mono HB0.out.size)
        have HB := Lib.hid hb; have HBW := Lib.hid hbw; have HCN := Lib.hid hcn; have HI := Lib.hid hi; have HCC := Lib.hid hc
        clear hb hbw hcn
        by_cases hlt : i < m
        · by_cases hle : c ≤ 400
          · have hle' : (c : Int) ≤ 400 := by omega
            have hil : i < l.length := by rw [HM.out]; exact hlt
            obtain ⟨b, o, xa, xc, rfl, hbn, hx, hcs⟩ := pkid_at HP.out HBW.out (Nat.le_refl _) (k := i) hil
            simp only [Tr.P.kids] at hx hcs
            have hcall := IH.out l[i] xa xc (c + 1) wr (by have := HN.out; have := Tr.size_kid l i hil; omega) (by omega) hx
            have hst := Tr.cnts_drop (l := l) (k := i) (n := c) hil hle
            have hle2 := Tr.cnt_le l[i] (c + 1)
            obtain ⟨q, hq⟩ : ∃ q, l[i] = q := ⟨_, rfl⟩
            rw [hq] at hcall hst hle2 hcs
            obtain ⟨e0, e1, e2, e3, e4, e5, e6⟩ := hcs
            obtain ⟨r, hr⟩ : ∃ r, Tr.cnt q (c + 1) = r := ⟨_, rfl⟩
            rw [hr] at hcall hst hle2
            unfold pv at hcall
            have HCL := Lib.hid hcall; have HST := Lib.hid hst; have HL2 := Lib.hid hle2
            clear hcall hst hle2 hx hq hr
            rw [show ((c + 1 : Nat) : Int) = (c : Int) + 1 from by omega] at HCL
            go_wp2_with fail
            refine HCL.out.mono ?_
            rintro e w' ⟨rfl, hb'⟩
            go_wp2_with fail
            go_roundg (m - (i + 1))
            case measure => omega
            case rel => exact ⟨r, i + 1, rfl, by first | rfl | go_num, by omega, by have := HL2.out; omega, by rw [← HST.out]; exact HCN.out, HB.out.trans (hb'.mono HB.out.size), rfl⟩
          · have hle' : ¬ (c : Int) ≤ 400 := by omega
            go_wp2_with fail
            go_ret
            refine ⟨?_, HBW.out⟩
            rw [← HCN.out, Tr.cnts_stop hle]
            rfl
        · obtain rfl : i = m := by omega
          go_wp2_with fail
          go_ret
          refine ⟨?_, HBW.out⟩
          rw [← HCN.out, List.drop_of_length_le (by rw [HM.out]; exact Nat.le_refl _)]
          rfl
end Go.Proofs.YtmmhpibkjdlkgaaGreat
namespace Go.Proofs.YtmmhpibkjdlkgaaGreat
open Go Go.RowKit
open Tr (P)

def strV (l : List UInt8) : Value := .string ⟨l.toArray⟩
/-- A row of names. -/
def SRow (w : World) (a : Option Addr) (L : List (List UInt8)) : Prop := L = [] ∨ ∃ b o, a = some ⟨b, o, none⟩ ∧ b < w.heap.size ∧ ∀ i (h : i < L.length), w.cell? ⟨b, o + i, none⟩ = some (strV L[i])
theorem SRow.of_own {w : World} {B n c : Nat} {e : TypeId} {a : Option Addr} {L : List (List UInt8)} (h : w.ownsRow B e 1 (.slice a n c) L.length (L.map strV)) : n = L.length ∧ SRow w a L := by
  obtain ⟨a', cap', e⟩ := own_shapeT h
  injection e with e1 e2 e3
  refine ⟨e2, ?_⟩
  by_cases h0 : L = []
  · exact Or.inl h0
  · obtain ⟨g, cap2, hv, hlt, hlt2⟩ := h.form (List.length_pos_iff.2 h0)
    injection hv with hv1 hv2 hv3
    subst hv1
    refine Or.inr ⟨g, 0, rfl, hlt2, fun i hi => ?_⟩
    have hc := h.cells (g := g) rfl i (strV L[i]) (by simp [hi])
    rw [add_flat] at hc; exact hc
theorem SRow.below {w w' : World} {a : Option Addr} {L : List (List UInt8)} {B : Nat} (h : SRow w a L) (hb : Below B w w') (hB : w.heap.size ≤ B) : SRow w' a L := by
  rcases h with h | ⟨b, o, h1, h2, h3⟩
  · exact .inl h
  · exact .inr ⟨b, o, h1, Nat.lt_of_lt_of_le h2 hb.size, fun i hi => (hb.cell (p := ⟨b, o + i, none⟩) (Nat.lt_of_lt_of_le h2 hB)).trans (h3 i hi)⟩
theorem SRow.take {w : World} {a : Option Addr} {L : List (List UInt8)} (h : SRow w a L) (k : Nat) : SRow w a (L.take k) := by
  rcases h with h | ⟨b, o, h1, h2, h3⟩
  · exact .inl (by rw [h]; simp)
  · exact .inr ⟨b, o, h1, h2, fun i hi => by rw [h3 i (by rw [List.length_take] at hi; omega)]; simp⟩

/-- What the page's vars hands back: the row, grown. -/
def SPost (B : Nat) (L : List (List UInt8)) (v : Value) (w : World) (e : Ending) (w' : World) : Prop :=
  ∃ v', e = .returned v' ∧ w'.ownsRow B 9 1 v' L.length (L.map strV) ∧ (w.heap.size ≤ w'.heap.size ∧ w'.os = w.os ∧ w'.tape = w.tape ∧ w'.output = w.output ∧ ∀ k, k < w.heap.size → v.ownBlock ≠ some k → w'.heap[k]? = w.heap[k]?) ∧ ∀ g, v'.ownBlock = some g → v.ownBlock = some g ∨ w.heap.size ≤ g
/-- The page's loop over the kids: what has turned since. -/
structure SKept (B : Nat) (v0 : Value) (w0 wr : World) (v : Value) (acc : List (List UInt8)) : Prop where
  own : wr.ownsRow B 9 1 v acc.length (acc.map strV)
  size : w0.heap.size ≤ wr.heap.size
  os : wr.os = w0.os
  tape : wr.tape = w0.tape
  output : wr.output = w0.output
  block : ∀ k, k < w0.heap.size → v0.ownBlock ≠ some k → wr.heap[k]? = w0.heap[k]?
  lies : ∀ g, v.ownBlock = some g → v0.ownBlock = some g ∨ w0.heap.size ≤ g
theorem SKept.refl {B : Nat} {v : Value} {w : World} {acc : List (List UInt8)} (h : w.ownsRow B 9 1 v acc.length (acc.map strV)) : SKept B v w w v acc := ⟨h, Nat.le_refl _, rfl, rfl, rfl, fun _ _ _ => rfl, fun _ h => .inl h⟩
theorem SKept.trans {B : Nat} {v0 v v' : Value} {w0 w w' : World} {acc acc' : List (List UInt8)} (h : SKept B v0 w0 w v acc) (k : SKept B v w w' v' acc') : SKept B v0 w0 w' v' acc' :=
  ⟨k.own, Nat.le_trans h.size k.size, k.os.trans h.os, k.tape.trans h.tape, k.output.trans h.output, fun i hi hn => (k.block i (Nat.lt_of_lt_of_le hi h.size) (fun e => (h.lies i e).elim hn (fun x => absurd hi (Nat.not_lt.2 x)))).trans (h.block i hi hn),
    fun g hg => by
      rcases k.lies g hg with x | x
      · exact h.lies g x
      · exact .inr (Nat.le_trans h.size x)⟩
theorem SKept.below {B : Nat} {v0 v : Value} {w0 w : World} {acc acc0 : List (List UInt8)} (h : SKept B v0 w0 w v acc) (h0 : w0.ownsRow B 9 1 v0 acc0.length (acc0.map strV)) (hB : B ≤ w0.heap.size) : Below B w0 w :=
  ⟨h.os, h.tape, h.output, h.size, fun k hk => h.block k (Nat.lt_of_lt_of_le hk hB) (fun e => by have := (h0.lt k e).1; omega)⟩
theorem SKept.post {B : Nat} {v0 v : Value} {w0 w : World} {acc : List (List UInt8)} (h : SKept B v0 w0 w v acc) : SPost B acc v0 w0 (.returned v) w := ⟨v, rfl, h.own, ⟨h.size, h.os, h.tape, h.output, h.block⟩, h.lies⟩
theorem SKept.alloc {B : Nat} {v : Value} {w : World} {acc : List (List UInt8)} (h : w.ownsRow B 9 1 v acc.length (acc.map strV)) (o : Obj) : SKept B v w (w.alloc o) v acc :=
  ⟨h.alloc o, by simp, rfl, rfl, rfl, fun k hk _ => Below.heap_alloc _ _ _ hk, fun _ h => .inl h⟩
theorem SKept.push {B : Nat} {v : Value} {w w' : World} {o : Obj} {g cap : Nat} {acc : List (List UInt8)} {x : List UInt8} (hown : w'.ownsRow B 9 1 (.slice (some ⟨g, 0, none⟩) (acc.length + 1) cap) (acc.length + 1) (acc.map strV ++ [strV x])) (hg : (w.alloc o).grownBy w' v.ownBlock) (hl : v.ownBlock = some g ∨ g = (w.alloc o).heap.size) :
    SKept B v w w' (.slice (some ⟨g, 0, none⟩) (acc.length + 1) cap) (acc ++ [x]) := by
  have hz := hg.size
  rw [World.size_alloc] at hz
  refine ⟨by rw [List.length_append, List.map_append]; exact hown, by omega, hg.os, hg.tape, hg.output, fun k hk hn => (hg.block k (by rw [World.size_alloc]; omega) (fun e => hn e.symm)).trans (Below.heap_alloc _ _ _ hk), fun y hy => ?_⟩
  injection hy with hy
  dsimp only at hy
  rcases hl with h | h
  · exact .inl (by rw [h, hy])
  · rw [World.size_alloc] at h; exact .inr (by omega)

namespace Tr
mutual
theorem names_len : ∀ p : P, (names p).length ≤ size p
  | .mk k f t n nm s l => by
    have := namess_len l
    simp only [names, size, List.length_append]
    split <;> simp <;> omega
theorem namess_len : ∀ l : List P, (namess l).length ≤ sizes l
  | [] => Nat.le_refl _
  | p :: r => by
    have := names_len p
    have := namess_len r
    simp only [namess, sizes, List.length_append]
    omega
end
theorem sizes_take_le (l : List P) (k : Nat) : sizes (l.take k) ≤ sizes l := by
  have := sizes_append (l.take k) (l.drop k)
  rw [List.take_append_drop] at this; omega
end Tr
end Go.Proofs.YtmmhpibkjdlkgaaGreat
namespace Go.Proofs.YtmmhpibkjdlkgaaGreat
open Go Go.RowKit
open Tr (P)

/-- A row of names of the call's own. -/
def NamesPost (L : List (List UInt8)) (w : World) (e : Ending) (w' : World) : Prop := ∃ v, e = .returned v ∧ w'.ownsRow w.heap.size 9 1 v L.length (L.map strV) ∧ Below w.heap.size w w'
end Go.Proofs.YtmmhpibkjdlkgaaGreat
namespace Go.Proofs.YtmmhpibkjdlkgaaGreat
open Go Go.RowKit

theorem ret_boolX {a b : Bool} (h : a = b) : Ending.returned (Value.bool a) = Ending.returned (Value.bool b) := by rw [h]
theorem below_drewX {w wr : World} {B : Nat} (h : Below B w wr) (n : Nat) : Below B w (wr.drewN n) := ⟨h.os, h.tape, h.output, h.size, h.block⟩
set_option maxHeartbeats 1000000 in
theorem texts_any (L K : List (List UInt8)) (a : Option Addr) (cap : Nat) (a' : Option Addr) (cap' : Nat) (w : World) (hL : L.length ≤ 1000000) (hK : K.length ≤ 1000000) (hr : SRow w a L) (hr' : SRow w a' K) :
    Calls Tryz.prog 26 #[.slice a L.length cap, .slice a' K.length cap'] w fun e w' => e = .returned (.bool (decide (L = K))) ∧ Below w.heap.size w w' := by
  obtain ⟨m, hm⟩ : ∃ m, L.length = m := ⟨_, rfl⟩
  obtain ⟨m', hm'⟩ : ∃ m, K.length = m := ⟨_, rfl⟩
  obtain ⟨res, hres⟩ : ∃ res, decide (L = K) = res := ⟨_, rfl⟩
  rw [hm] at hL ⊢; rw [hm'] at hK ⊢; rw [hres]
  have HM := Lib.hid hm; have HM' := Lib.hid hm'; have HRES := Lib.hid hres; have HR := Lib.hid hr; have HR' := Lib.hid hr'; clear hm hm' hres hr hr'
  by_cases hmm : m = m'
  · subst hmm
    go_enter Tryz.func26, Tryz.ntmps26
    go_wp2_with fail
    go_loopg [5] m (fun gk i wr => ∃ k : Nat, k ≤ m ∧ i = .int .i64 k ∧ L.take k = K.take k ∧ Below w.heap.size w wr ∧ gk = m - k)
    case atStart => exact ⟨0, Nat.zero_le _, rfl, by simp, Below.refl _ _, rfl⟩
    case round =>
      obtain ⟨k, hk, rfl, hq, hb, rfl⟩ := hrel
      have HQ := Lib.hid hq; have HB := Lib.hid hb; clear hq hb
      by_cases hlt : k < m
      · have hkl : k < L.length := by rw [HM.out]; exact hlt
        have hkl' : k < K.length := by rw [HM'.out]; exact hlt
        rcases HR.out.below HB.out (Nat.le_refl _) with h0 | ⟨b, o, rfl, hb, hc⟩
        · rw [h0] at hkl; simp at hkl
        · rcases HR'.out.below HB.out (Nat.le_refl _) with h0 | ⟨b', o', rfl, hb', hc'⟩
          · rw [h0] at hkl'; simp at hkl'
          · have hck := hc k hkl
            have hck' := hc' k hkl'
            have htk : L.take (k + 1) = L.take k ++ [L[k]] := List.take_succ_eq_append_getElem hkl
            have htk' : K.take (k + 1) = K.take k ++ [K[k]] := List.take_succ_eq_append_getElem hkl'
            have hne : L[k] ≠ K[k] → L ≠ K := fun h e => h (by subst e; rfl)
            obtain ⟨x, hx⟩ : ∃ x, L[k] = x := ⟨_, rfl⟩
            obtain ⟨y, hy⟩ : ∃ x, K[k] = x := ⟨_, rfl⟩
            rw [hx] at hck htk hne; rw [hy] at hck' htk' hne
            unfold strV at hck hck'
            have HT := Lib.hid htk; have HT' := Lib.hid htk'; have HNE := Lib.hid hne; clear hc hc' htk htk' hx hy hkl hkl' hne hb hb'
            by_cases hxq : x = y
            · have g1 : (x == y) = true := by simp [hxq]
              have HXQ := Lib.hid hxq; clear hxq
              go_wp2_with fail
              go_quiet (fail)
              go_wp2_with fail
              go_roundg (m - (k + 1))
              case measure => omega
              case rel => exact ⟨k + 1, by omega, by go_num, by rw [HT.out, HT'.out, HQ.out, HXQ.out], below_drewX HB.out _, rfl⟩
            · have g1 : (x == y) = false := by simp [hxq]
              have HXQ := Lib.hid hxq; clear hxq
              go_wp2_with fail
              go_quiet (fail)
              go_wp2_with fail
              go_ret
              exact ⟨ret_boolX (by rw [← HRES.out]; exact (decide_eq_false (HNE.out HXQ.out)).symm), below_drewX HB.out _⟩
      · obtain rfl : k = m := by omega
        go_wp2_with fail
        go_ret
        exact ⟨ret_boolX (by rw [← HRES.out]; exact (decide_eq_true (by have := HQ.out; rwa [List.take_of_length_le (by rw [HM.out]; exact Nat.le_refl _), List.take_of_length_le (by rw [HM'.out]; exact Nat.le_refl _)] at this)).symm), HB.out⟩
  · have g1 : ((m : Int) != (m' : Int)) = true := by simp; omega
    have HMM := Lib.hid hmm; clear hmm
    go_enter Tryz.func26, Tryz.ntmps26
    go_wp2_with fail
    go_ret
    exact ⟨ret_boolX (by rw [← HRES.out]; exact (decide_eq_false (fun e => HMM.out (by rw [← HM.out, ← HM'.out, e]))).symm), Below.refl _ _⟩
/-- An expression that is a name. -/
def nameE (s : List UInt8) : Ex.E := .mk 1 0 0 s [] 0 [] 0 (.mk 0 0 []) (.mk 0 0 []) [] []
def noL : Leads := ⟨none, 0, none, 0, none, 0, none, 0⟩
set_option maxRecDepth 100000 in
set_option maxHeartbeats 1000000 in
theorem sname_any (s : List UInt8) (w : World) :
    Calls Tryz.prog 73 #[.string ⟨s.toArray⟩] w fun e w' => e = .returned (ev (nameE s) noL) ∧ Below w.heap.size w w' := by
  go_enter Tryz.func73, Tryz.ntmps73
  go_wp2
  have hg : (w.alloc (.cells #[.int .i64 1, .int .i64 0, .int .i64 0, .string ⟨s.toArray⟩, .string ⟨#[]⟩, .int .i64 0, .string ⟨#[]⟩, .int .i64 0, .int .i64 0, .int .i64 0, .slice none 0 0, .int .i64 0, .int .i64 0, .slice none 0 0, .slice none 0 0, .slice none 0 0] 30)).heap[w.heap.size]? = some (.cells #[.int .i64 1, .int .i64 0, .int .i64 0, .string ⟨s.toArray⟩, .string ⟨#[]⟩, .int .i64 0, .string ⟨#[]⟩, .int .i64 0, .int .i64 0, .int .i64 0, .slice none 0 0, .int .i64 0, .int .i64 0, .slice none 0 0, .slice none 0 0, .slice none 0 0] 30) := World.alloc_heap_new w _
  exact bodyPost_ret_by (v := ev (nameE s) noL) (results_cell_row (p := 2) (ty := 30) (by kernel_rfl) _ _ w.heap.size 30 _ (0, 0) _ rfl hg Tryz.underlying30 rfl (by kernel_rfl)) rfl ⟨rfl, (Below.refl _ _).alloc (Nat.le_refl _) _⟩
end Go.Proofs.YtmmhpibkjdlkgaaGreat
