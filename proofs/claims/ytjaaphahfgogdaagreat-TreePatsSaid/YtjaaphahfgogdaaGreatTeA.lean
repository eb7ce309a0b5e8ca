/- The law's count of a pattern; the page's Names and Has. Rows of names; the page's Names, Has. The page's Names, Has, pat, RightPat. suretykeep.Texts: are two rows of names alike? The sample's own 'name'. -/
import Derived.Test.YtjaaphahfgogdaaGreatPure
import Derived.Test.YtjaaphahfgogdaaGreatTrA
import Derived.Test.YtjaaphahfgogdaaGreatTrC
import Derived.Deep.LoopGhost
import Derived.IntWalk
import Derived.Test.YtjaaphahfgogdaaGreatTpP
import Derived.Deep.AppendLies
import Derived.BigQuiet
import Derived.Laws.ResultCell
import Derived.Test.YtjaaphahfgogdaaGreatTxA
namespace Go.Proofs.YtjaaphahfgogdaaGreat
open Go Go.RowKit
open Tr (P)

namespace Tr
mutual
theorem cnt_le : ∀ (p : P) (n : Nat), cnt p n ≤ max n 401
  | .mk _ _ _ _ nm s l, n => by
    unfold cnt
    split
    · omega
    · exact cnts_le l n
theorem cnts_le : ∀ (l : List P) (n : Nat), cnts l n ≤ max n 401
  | [], n => by unfold cnts; omega
  | p :: r, n => by
    unfold cnts
    split
    · have h1 := cnt_le p (n + 1)
      have h2 := cnts_le r (cnt p (n + 1))
      omega
    · omega
end
theorem cnts_stop {l : List P} {n : Nat} (h : ¬ n ≤ 400) : cnts l n = n := by
  cases l with
  | nil => rfl
  | cons p r => unfold cnts; rw [if_neg h]
theorem cnts_drop {l : List P} {k n : Nat} (hk : k < l.length) (hn : n ≤ 400) : cnts (l.drop k) n = cnts (l.drop (k + 1)) (cnt l[k] (n + 1)) := by
  rw [List.drop_eq_getElem_cons hk, cnts, if_pos hn]
end Tr
/-- A pattern's box. -/
theorem pbox {w w' : World} {x0 x1 x2 x3 x4 x5 x6 : Value} {fz : Nat × Nat} {b : Nat} (h : w.heap[b]? = some (.cells #[x0, x1, x2, x3, x4, x5, x6] 50 fz)) (hb : w'.heap[b]? = w.heap[b]?) :
    w'.cell? ⟨b, 0, none⟩ = some x0 ∧ w'.cell? ⟨b, 1, none⟩ = some x1 ∧ w'.cell? ⟨b, 2, none⟩ = some x2 ∧ w'.cell? ⟨b, 3, none⟩ = some x3 ∧ w'.cell? ⟨b, 4, none⟩ = some x4 ∧ w'.cell? ⟨b, 5, none⟩ = some x5 ∧ w'.cell? ⟨b, 6, none⟩ = some x6 := by
  have h' := hb.trans h
  refine ⟨?_, ?_, ?_, ?_, ?_, ?_, ?_⟩ <;> (rw [Lib.cell_of_heap h']; rfl)
set_option maxRecDepth 100000 in
set_option maxHeartbeats 4000000 in
theorem countPat_any : ∀ (sz : Nat) (p : P) (a : Option Addr) (cap n : Nat) (w : World), Tr.size p ≤ sz → n ≤ 401 → PatAt (LT w.heap.size) w p a cap →
    Calls Tryz.prog 77 #[pv p a cap, .int .i64 (n : Int)] w fun e w' => e = .returned (.int .i64 (Tr.cnt p n : Int)) ∧ Below w.heap.size w w' := by
  intro sz
  induction sz with
  | zero => intro p a cap n w h; have := Tr.size_pos p; omega
  | succ sz ih =>
    intro p a cap n w hn hc hp
    obtain ⟨k, f, t, x, nm, s, l⟩ := p
    obtain ⟨m, hm⟩ : ∃ m, l.length = m := ⟨_, rfl⟩
    have hm2 : (m : Int) ≤ 9223372036854775807 := by have h1 := hp.2.1; have h2 := hp.2.2.1; simp only [Tr.P.kids] at h1; unfold maxLen at h2; omega
    unfold pv
    simp only [Tr.P.kind, Tr.P.frm, Tr.P.til, Tr.P.num, Tr.P.nm, Tr.P.s, Tr.P.kids]
    rw [hm]
    have hnew := World.alloc_heap_new w (.cells #[.int .i64 k, .int .i64 f, .int .i64 t, .string ⟨nm.toArray⟩, .int .i64 x, .string ⟨s.toArray⟩, .slice a m cap] 50)
    have hb0 : Below w.heap.size w (w.alloc (.cells #[.int .i64 k, .int .i64 f, .int .i64 t, .string ⟨nm.toArray⟩, .int .i64 x, .string ⟨s.toArray⟩, .slice a m cap] 50)) := (Below.refl _ _).alloc (Nat.le_refl _) _
    generalize hw1 : w.alloc (.cells #[.int .i64 k, .int .i64 f, .int .i64 t, .string ⟨nm.toArray⟩, .int .i64 x, .string ⟨s.toArray⟩, .slice a m cap] 50) = w1 at hnew hb0
    obtain ⟨c0, c1, c2, c3, c4, c5, c6⟩ := pbox hnew rfl
    have hs1 : w1.heap.size = w.heap.size + 1 := by rw [← hw1]; simp
    simp only [Tr.size] at hn
    have HP := Lib.hid hp; have HN := Lib.hid hn; have HC := Lib.hid hc; have HM := Lib.hid hm; have HW1 := Lib.hid hw1; have HNEW := Lib.hid hnew; have HB0 := Lib.hid hb0; have IH := Lib.hid ih; have HS1 := Lib.hid hs1
    clear hp hn hc hm hw1 hnew hb0 ih hs1
    by_cases hbig : 300 < s.length ∨ 300 < nm.length
    · have hr : Tr.cnt (.mk k f t x nm s l) n = 401 := by unfold Tr.cnt; rw [if_pos hbig]
      rw [hr]
      by_cases h1 : 300 < s.length
      · have h1' : (s.length : Int) > 300 := by omega
        clear hbig hr
        go_enter Tryz.func77, Tryz.ntmps77
        go_upto_region 1 with fail
        rw [HW1.out]
        go_wp2_with fail
        go_ret
        exact ⟨rfl, HB0.out⟩
      · have h1' : ¬ (s.length : Int) > 300 := by omega
        have h2' : (nm.length : Int) > 300 := by omega
        clear hbig hr
        go_enter Tryz.func77, Tryz.ntmps77
        go_upto_region 1 with fail
        rw [HW1.out]
        go_wp2_with fail
        go_ret
        exact ⟨rfl, HB0.out⟩
    · have hr : Tr.cnt (.mk k f t x nm s l) n = Tr.cnts l n := by unfold Tr.cnt; rw [if_neg hbig]
      rw [hr]
      have h1' : ¬ (s.length : Int) > 300 := by omega
      have h2' : ¬ (nm.length : Int) > 300 := by omega
      clear hbig hr
      go_enter Tryz.func77, Tryz.ntmps77
      go_upto_region 1 with fail
      rw [HW1.out]
      go_upto_region 4 with fail
      clear c0 c1 c2 c3 c4 c5 c6
      go_loopg [1, 5] m (fun gk v1 v5 wr => ∃ (c i : Nat), v1 = .int .i64 (c : Int) ∧ v5 = .int .i64 (i : Int) ∧ i ≤ m ∧ c ≤ 401 ∧ Tr.cnts (l.drop i) c = Tr.cnts l n ∧ Below w1.heap.size w1 wr ∧ gk = m - i)
      case atStart => exact ⟨n, 0, rfl, rfl, Nat.zero_le _, HC.out, by rw [List.drop_zero], Below.refl _ _, rfl⟩
      case round =>
        obtain ⟨c, i, rfl, rfl, hi, hc, hcn, hb, rfl⟩ := hrel
        obtain ⟨c0, c1, c2, c3, c4, c5, c6⟩ := pbox HNEW.out (hb.block w.heap.size (by have := HS1.out; omega))
        have hbw : Below w.heap.size w wr := HB0.out.trans (hb.mono HB0.out.size)
        have HB := Lib.hid hb; have HBW := Lib.hid hbw; have HCN := Lib.hid hcn; have HI := Lib.hid hi; have HCC := Lib.hid hc
        clear hb hbw hcn
        by_cases hlt : i < m
        · by_cases hle : c ≤ 400
          · have hle' : (c : Int) ≤ 400 := by omega
            have hil : i < l.length := by rw [HM.out]; exact hlt
            obtain ⟨b, o, xa, xc, rfl, hbn, hx, hcs⟩ := pkid_at HP.out HBW.out (Nat.le_refl _) (k := i) hil
            simp only [Tr.P.kids] at hx hcs
            have hcall := IH.out l[i] xa xc (c + 1) wr (by have := HN.out; have := Tr.size_kid l i hil; omega) (by omega) hx
            have hst := Tr.cnts_drop (l := l) (k := i) (n := c) hil hle
            have hle2 := Tr.cnt_le l[i] (c + 1)
            obtain ⟨q, hq⟩ : ∃ q, l[i] = q := ⟨_, rfl⟩
            rw [hq] at hcall hst hle2 hcs
            obtain ⟨e0, e1, e2, e3, e4, e5, e6⟩ := hcs
            obtain ⟨r, hr⟩ : ∃ r, Tr.cnt q (c + 1) = r := ⟨_, rfl⟩
            rw [hr] at hcall hst hle2
            unfold pv at hcall
            have HCL := Lib.hid hcall; have HST := Lib.hid hst; have HL2 := Lib.hid hle2
            clear hcall hst hle2 hx hq hr
            rw [show ((c + 1 : Nat) : Int) = (c : Int) + 1 from by omega] at HCL
            go_wp2_with fail
            refine HCL.out.mono ?_
            rintro e w' ⟨rfl, hb'⟩
            go_wp2_with fail
            go_roundg (m - (i + 1))
            case measure => omega
            case rel => exact ⟨r, i + 1, rfl, by first | rfl | go_num, by omega, by have := HL2.out; omega, by rw [← HST.out]; exact HCN.out, HB.out.trans (hb'.mono HB.out.size), rfl⟩
          · have hle' : ¬ (c : Int) ≤ 400 := by omega
            go_wp2_with fail
            go_ret
            refine ⟨?_, HBW.out⟩
            rw [← HCN.out, Tr.cnts_stop hle]
            rfl
        · obtain rfl : i = m := by omega
          go_wp2_with fail
          go_ret
          refine ⟨?_, HBW.out⟩
          rw [← HCN.out, List.drop_of_length_le (by rw [HM.out]; exact Nat.le_refl _)]
          rfl
set_option maxRecDepth 100000 in
theorem heavyPat_any (p : P) (a : Option Addr) (cap : Nat) (w : World) (hp : PatAt (LT w.heap.size) w p a cap) :
    Calls Tryz.prog 35 #[pv p a cap] w fun e w' => e = .returned (.bool (decide (400 < Tr.cnt p 0))) ∧ Below w.heap.size w w' := by
  have hb0 : Below w.heap.size w (w.alloc (.cells #[.int .i64 p.kind, .int .i64 p.frm, .int .i64 p.til, .string ⟨p.nm.toArray⟩, .int .i64 p.num, .string ⟨p.s.toArray⟩, .slice a p.kids.length cap] 50)) := (Below.refl _ _).alloc (Nat.le_refl _) _
  have hcl := countPat_any _ p a cap 0 _ (Nat.le_refl _) (by omega) (pat_later hp hb0)
  obtain ⟨c, hc⟩ : ∃ c, Tr.cnt p 0 = c := ⟨_, rfl⟩
  rw [hc] at hcl ⊢
  unfold pv at hcl ⊢
  have HCL := Lib.hid hcl; have HB0 := Lib.hid hb0
  clear hcl hb0 hc hp
  rw [show ((0 : Nat) : Int) = 0 from rfl] at HCL
  go_enter Tryz.func35, Tryz.ntmps35
  go_wp2_with fail
  refine HCL.out.mono ?_
  rintro e w' ⟨rfl, hb'⟩
  have HB' := Lib.hid (HB0.out.trans (hb'.mono HB0.out.size))
  clear hb'
  go_wp2_with fail
  go_ret
  refine ⟨?_, HB'.out⟩
  show Ending.returned (Value.bool (decide ((400 : Int) < (c : Int)))) = _
  exact congrArg (fun b => Ending.returned (Value.bool b)) (decide_eq_decide.2 (by omega))
end Go.Proofs.YtjaaphahfgogdaaGreat
namespace Go.Proofs.YtjaaphahfgogdaaGreat
open Go Go.RowKit
open Tr (P)

def strV (l : List UInt8) : Value := .string ⟨l.toArray⟩
theorem info_str : (Tryz.prog.info? 9).map (fun i => (i.zero, i.size, i.bytes)) = some (some (.string ByteArray.empty), 1, 16) := by kernel_rfl
/-- A row of names. -/
def SRow (w : World) (a : Option Addr) (L : List (List UInt8)) : Prop := L = [] ∨ ∃ b o, a = some ⟨b, o, none⟩ ∧ b < w.heap.size ∧ ∀ i (h : i < L.length), w.cell? ⟨b, o + i, none⟩ = some (strV L[i])
theorem SRow.of_own {w : World} {B n c : Nat} {e : TypeId} {a : Option Addr} {L : List (List UInt8)} (h : w.ownsRow B e 1 (.slice a n c) L.length (L.map strV)) : n = L.length ∧ SRow w a L := by
  obtain ⟨a', cap', e⟩ := own_shapeT h
  injection e with e1 e2 e3
  refine ⟨e2, ?_⟩
  by_cases h0 : L = []
  · exact Or.inl h0
  · obtain ⟨g, cap2, hv, hlt, hlt2⟩ := h.form (List.length_pos_iff.2 h0)
    injection hv with hv1 hv2 hv3
    subst hv1
    refine Or.inr ⟨g, 0, rfl, hlt2, fun i hi => ?_⟩
    have hc := h.cells (g := g) rfl i (strV L[i]) (by simp [hi])
    rw [add_flat] at hc; exact hc
theorem SRow.below {w w' : World} {a : Option Addr} {L : List (List UInt8)} {B : Nat} (h : SRow w a L) (hb : Below B w w') (hB : w.heap.size ≤ B) : SRow w' a L := by
  rcases h with h | ⟨b, o, h1, h2, h3⟩
  · exact .inl h
  · exact .inr ⟨b, o, h1, Nat.lt_of_lt_of_le h2 hb.size, fun i hi => (hb.cell (p := ⟨b, o + i, none⟩) (Nat.lt_of_lt_of_le h2 hB)).trans (h3 i hi)⟩
theorem SRow.take {w : World} {a : Option Addr} {L : List (List UInt8)} (h : SRow w a L) (k : Nat) : SRow w a (L.take k) := by
  rcases h with h | ⟨b, o, h1, h2, h3⟩
  · exact .inl (by rw [h]; simp)
  · exact .inr ⟨b, o, h1, h2, fun i hi => by rw [h3 i (by rw [List.length_take] at hi; omega)]; simp⟩

/-- What the page's vars hands back: the row, grown. -/
def SPost (B : Nat) (L : List (List UInt8)) (v : Value) (w : World) (e : Ending) (w' : World) : Prop :=
  ∃ v', e = .returned v' ∧ w'.ownsRow B 9 1 v' L.length (L.map strV) ∧ (w.heap.size ≤ w'.heap.size ∧ w'.os = w.os ∧ w'.tape = w.tape ∧ w'.output = w.output ∧ ∀ k, k < w.heap.size → v.ownBlock ≠ some k → w'.heap[k]? = w.heap[k]?) ∧ ∀ g, v'.ownBlock = some g → v.ownBlock = some g ∨ w.heap.size ≤ g
/-- The page's loop over the kids: what has turned since. -/
structure SKept (B : Nat) (v0 : Value) (w0 wr : World) (v : Value) (acc : List (List UInt8)) : Prop where
  own : wr.ownsRow B 9 1 v acc.length (acc.map strV)
  size : w0.heap.size ≤ wr.heap.size
  os : wr.os = w0.os
  tape : wr.tape = w0.tape
  output : wr.output = w0.output
  block : ∀ k, k < w0.heap.size → v0.ownBlock ≠ some k → wr.heap[k]? = w0.heap[k]?
  lies : ∀ g, v.ownBlock = some g → v0.ownBlock = some g ∨ w0.heap.size ≤ g
theorem SKept.refl {B : Nat} {v : Value} {w : World} {acc : List (List UInt8)} (h : w.ownsRow B 9 1 v acc.length (acc.map strV)) : SKept B v w w v acc := ⟨h, Nat.le_refl _, rfl, rfl, rfl, fun _ _ _ => rfl, fun _ h => .inl h⟩
theorem SKept.trans {B : Nat} {v0 v v' : Value} {w0 w w' : World} {acc acc' : List (List UInt8)} (h : SKept B v0 w0 w v acc) (k : SKept B v w w' v' acc') : SKept B v0 w0 w' v' acc' :=
  ⟨k.own, Nat.le_trans h.size k.size, k.os.trans h.os, k.tape.trans h.tape, k.output.trans h.output, fun i hi hn => (k.block i (Nat.lt_of_lt_of_le hi h.size) (fun e => (h.lies i e).elim hn (fun x => absurd hi (Nat.not_lt.2 x)))).trans (h.block i hi hn),
    fun g hg => by
      rcases k.lies g hg with x | x
      · exact h.lies g x
      · exact .inr (Nat.le_trans h.size x)⟩
theorem SKept.below {B : Nat} {v0 v : Value} {w0 w : World} {acc acc0 : List (List UInt8)} (h : SKept B v0 w0 w v acc) (h0 : w0.ownsRow B 9 1 v0 acc0.length (acc0.map strV)) (hB : B ≤ w0.heap.size) : Below B w0 w :=
  ⟨h.os, h.tape, h.output, h.size, fun k hk => h.block k (Nat.lt_of_lt_of_le hk hB) (fun e => by have := (h0.lt k e).1; omega)⟩
theorem SKept.post {B : Nat} {v0 v : Value} {w0 w : World} {acc : List (List UInt8)} (h : SKept B v0 w0 w v acc) : SPost B acc v0 w0 (.returned v) w := ⟨v, rfl, h.own, ⟨h.size, h.os, h.tape, h.output, h.block⟩, h.lies⟩
theorem SPost.kept {B : Nat} {v0 : Value} {w0 w : World} {acc : List (List UInt8)} {e : Ending} (h : SPost B acc v0 w0 e w) : ∃ v, e = .returned v ∧ SKept B v0 w0 w v acc := by
  obtain ⟨v, h1, h2, ⟨a, b, c, d, f⟩, g⟩ := h
  exact ⟨v, h1, h2, a, b, c, d, f, g⟩
/-- A box of another type is none of the row's blocks. -/
theorem sbox_far {B n : Nat} {w : World} {v : Value} {xs : List Value} {b : Nat} {A : Array Value} {s : TypeId} (h : w.ownsRow B 9 1 v n xs) (hb : w.heap[b]? = some (.cells A s)) (hs : s ≠ 9) : v.ownBlock ≠ some b := fun e => by
  rcases h.2 with ⟨h1, _⟩ | ⟨g, cap, cur, h1, _, h3, _⟩
  · rw [h1] at e; cases e
  · rw [h1] at e; injection e with e; dsimp only at e; rw [e, hb] at h3; injection h3 with h3; injection h3 with h4 h5; exact hs h5
theorem SKept.alloc {B : Nat} {v : Value} {w : World} {acc : List (List UInt8)} (h : w.ownsRow B 9 1 v acc.length (acc.map strV)) (o : Obj) : SKept B v w (w.alloc o) v acc :=
  ⟨h.alloc o, by simp, rfl, rfl, rfl, fun k hk _ => Below.heap_alloc _ _ _ hk, fun _ h => .inl h⟩
theorem SKept.push {B : Nat} {v : Value} {w w' : World} {o : Obj} {g cap : Nat} {acc : List (List UInt8)} {x : List UInt8} (hown : w'.ownsRow B 9 1 (.slice (some ⟨g, 0, none⟩) (acc.length + 1) cap) (acc.length + 1) (acc.map strV ++ [strV x])) (hg : (w.alloc o).grownBy w' v.ownBlock) (hl : v.ownBlock = some g ∨ g = (w.alloc o).heap.size) :
    SKept B v w w' (.slice (some ⟨g, 0, none⟩) (acc.length + 1) cap) (acc ++ [x]) := by
  have hz := hg.size
  rw [World.size_alloc] at hz
  refine ⟨by rw [List.length_append, List.map_append]; exact hown, by omega, hg.os, hg.tape, hg.output, fun k hk hn => (hg.block k (by rw [World.size_alloc]; omega) (fun e => hn e.symm)).trans (Below.heap_alloc _ _ _ hk), fun y hy => ?_⟩
  injection hy with hy
  dsimp only at hy
  rcases hl with h | h
  · exact .inl (by rw [h, hy])
  · rw [World.size_alloc] at h; exact .inr (by omega)

theorem snews1 (w : World) (A : Array Value) (s : TypeId) (x : List UInt8) (u : TypeId) : ∀ j v, [strV x][j]? = some v → ((w.alloc (.cells A s)).alloc (.cells #[strV x] u)).cell? ((⟨w.heap.size + 1, 0, none⟩ : Addr).add j) = some v := fun j v hv =>
  World.news_of_block (box2 w A #[strV x] s u) j v hv


namespace Tr
theorem namess_append : ∀ l m : List P, namess (l ++ m) = namess l ++ namess m
  | [], m => rfl
  | p :: r, m => by simp only [List.cons_append, namess, namess_append r m, List.append_assoc]
theorem namess_take (l : List P) (k : Nat) (h : k < l.length) : namess (l.take (k + 1)) = namess (l.take k) ++ names l[k] := by
  rw [List.take_succ_eq_append_getElem h, namess_append]; simp [namess]
mutual
theorem names_len : ∀ p : P, (names p).length ≤ size p
  | .mk k f t n nm s l => by
    have := namess_len l
    simp only [names, size, List.length_append]
    split <;> simp <;> omega
theorem namess_len : ∀ l : List P, (namess l).length ≤ sizes l
  | [] => Nat.le_refl _
  | p :: r => by
    have := names_len p
    have := namess_len r
    simp only [namess, sizes, List.length_append]
    omega
end
theorem sizes_take_le (l : List P) (k : Nat) : sizes (l.take k) ≤ sizes l := by
  have := sizes_append (l.take k) (l.drop k)
  rw [List.take_append_drop] at this; omega
end Tr
theorem pkid_in {n : Nat} {w wr : World} {p : P} {a : Option Addr} {cap : Nat} (h : PatAt (LT n) w p a cap) (hb : Below n w wr) {k : Nat} (hk : k < p.kids.length) :
    ∃ b o xa xc, a = some ⟨b, o, none⟩ ∧ b < n ∧ PatAt (LT n) wr p.kids[k] xa xc ∧ PCells wr b (o + k * 7) p.kids[k] xa xc := by
  have h2 := h.below hb (fun _ h => h) (fun b h => h)
  obtain ⟨b, o, rfl, hbn, hN⟩ := h2.2.2.2.first (by omega)
  obtain ⟨xa, xc, q1, q2⟩ := (hN k hk).pat
  exact ⟨b, o, xa, xc, rfl, hbn, q1, q2⟩
set_option maxRecDepth 100000 in
set_option maxHeartbeats 4000000 in
theorem rnames_any (B : Nat) : ∀ (sz : Nat) (p : P) (a : Option Addr) (cap : Nat) (va : Option Addr) (vcap : Nat) (acc : List (List UInt8)) (w : World), Tr.size p ≤ sz → acc.length + Tr.size p ≤ 10000 → B ≤ w.heap.size → PatAt (LT B) w p a cap →
    w.ownsRow B 9 1 (.slice va acc.length vcap) acc.length (acc.map strV) →
    Calls Tryz.prog 78 #[pv p a cap, .slice va acc.length vcap] w (SPost B (acc ++ Tr.names p) (.slice va acc.length vcap) w) := by
  intro sz
  induction sz with
  | zero => intro p a cap va vcap acc w h; have := Tr.size_pos p; omega
  | succ sz ih =>
    intro p a cap va vcap acc w hn hs hB hp hown
    obtain ⟨k, f, t, x, nm, s, l⟩ := p
    obtain ⟨m, hm⟩ : ∃ m, l.length = m := ⟨_, rfl⟩
    obtain ⟨m0, hm0⟩ : ∃ m, acc.length = m := ⟨_, rfl⟩
    have hm2 : (m : Int) ≤ 9223372036854775807 := by have h1 := hp.2.1; have h2 := hp.2.2.1; simp only [Tr.P.kids] at h1; unfold maxLen at h2; omega
    simp only [Tr.size] at hn hs
    unfold pv
    simp only [Tr.P.kind, Tr.P.frm, Tr.P.til, Tr.P.num, Tr.P.nm, Tr.P.s, Tr.P.kids]
    have hbox := World.alloc_heap_new w (.cells #[.int .i64 k, .int .i64 f, .int .i64 t, .string ⟨nm.toArray⟩, .int .i64 x, .string ⟨s.toArray⟩, .slice a m cap] 50)
    have hown0 := hown
    have hal1 := SKept.alloc hown (.cells #[.int .i64 k, .int .i64 f, .int .i64 t, .string ⟨nm.toArray⟩, .int .i64 x, .string ⟨s.toArray⟩, .slice a m cap] 50)
    rw [hm0] at hown hs hal1
    rw [hm, hm0]
    obtain ⟨c0, c1, c2, c3, c4, c5, c6⟩ := pbox hbox rfl
    have hacc : m0 ≤ 10000 := by omega
    have HOWN0 := Lib.hid (show w.ownsRow B 9 1 (.slice va m0 vcap) acc.length (acc.map strV) from by rw [hm0]; exact hown)
    have HP := Lib.hid hp; have HN := Lib.hid hn; have HS := Lib.hid hs; have HM := Lib.hid hm; have HM0 := Lib.hid hm0; have HBW := Lib.hid hB; have HBOX := Lib.hid hbox; have HOWN := Lib.hid hown; have IH := Lib.hid ih; have HAL1 := Lib.hid hal1
    clear hp hn hs hm hm0 hB hbox hown hown0 ih hal1
    obtain ⟨i0, hi, hz0, hz1, hz2⟩ := info_parts info_str
    by_cases hk2 : k = 2
    · subst hk2
      obtain ⟨acc1, hacc1⟩ : ∃ a1, acc ++ [nm] = a1 := ⟨_, rfl⟩
      have hv : acc ++ Tr.names (.mk 2 f t x nm s l) = acc1 ++ Tr.namess l := by rw [← hacc1]; simp [Tr.names]
      have HV := Lib.hid hv.symm; have HA1 := Lib.hid (show acc1.length ≤ m0 + 1 by rw [← hacc1, List.length_append, HM0.out]; simp); have HACC := Lib.hid hacc1
      rw [hv]
      clear hv hacc1
      have HOWNB := Lib.hid (show ((w.alloc (.cells #[.int .i64 2, .int .i64 f, .int .i64 t, .string ⟨nm.toArray⟩, .int .i64 x, .string ⟨s.toArray⟩, .slice a m cap] 50)).alloc (.cells #[strV nm] 9)).ownsRow B 9 1 (.slice va m0 vcap) m0 (acc.map strV) from (HOWN.out.alloc _).alloc _)
      have hnews := snews1 w #[.int .i64 2, .int .i64 f, .int .i64 t, .string ⟨nm.toArray⟩, .int .i64 x, .string ⟨s.toArray⟩, .slice a m cap] 50 nm 9
      have HNEWS := Lib.hid hnews
      clear hnews
      go_enter Tryz.func78, Tryz.ntmps78
      go_wp2_with (at_builtin; refine wpList_append_lies _ rfl (.tmp 9) (.tmp 12) 34 rfl B 9 i0 (.string ByteArray.empty) 1 16 Tryz.underlying34 hi hz0 hz1 hz2 rfl (by decide) (.slice va m0 vcap) m0 (acc.map strV) rfl HOWNB.out ⟨w.heap.size + 1, 0, none⟩ 1 1 [strV nm] rfl rfl HNEWS.out (by intro u hu; obtain rfl := List.mem_singleton.1 hu; rfl) (by decide) (by unfold maxLen; omega) (by omega) (Nat.le_trans HBW.out (by simp <;> omega)) _ rfl ?_; intro g2 cap2 w2 own2 gr2 ly2 _)
      have hk0 : SKept B (.slice va m0 vcap) w w2 (.slice (some ⟨g2, 0, none⟩) (m0 + 1) cap2) acc1 := by
        refine HAL1.out.trans ?_
        have h2 := SKept.push (acc := acc) (x := nm) (B := B) (w := w.alloc (.cells #[.int .i64 2, .int .i64 f, .int .i64 t, .string ⟨nm.toArray⟩, .int .i64 x, .string ⟨s.toArray⟩, .slice a m cap] 50)) (w' := w2) (v := .slice va m0 vcap) (g := g2) (cap := cap2) (by rw [HM0.out]; exact own2) gr2 ly2
        rw [HM0.out] at h2
        rw [← HACC.out]
        exact h2
      have HBX := Lib.hid ((gr2.block w.heap.size (by simp <;> omega) (fun e => sbox_far (HOWN0.out.alloc _) HBOX.out (by decide) e.symm)).trans ((Below.heap_alloc _ _ _ (by simp)).trans HBOX.out))
      clear gr2 ly2 own2 hi hz0 hz1 hz2 c0 c1 c2 c3 c4 c5 c6
      have HK0 := Lib.hid hk0
      clear hk0
      go_loopg [1, 5] m (fun gk v i wr => ∃ j : Nat, j ≤ m ∧ i = .int .i64 (j : Int) ∧ SKept B (.slice va m0 vcap) w wr v (acc1 ++ Tr.namess (l.take j)) ∧ wr.heap[w.heap.size]? = some (.cells #[.int .i64 2, .int .i64 f, .int .i64 t, .string ⟨nm.toArray⟩, .int .i64 x, .string ⟨s.toArray⟩, .slice a m cap] 50 (0, 0)) ∧ gk = m - j)
      case atStart => exact ⟨0, Nat.zero_le _, rfl, by simpa [Tr.namess] using HK0.out, HBX.out, rfl⟩
      case round =>
        obtain ⟨j, hj, rfl, hkp, hbx, rfl⟩ := hrel
        obtain ⟨c0, c1, c2, c3, c4, c5, c6⟩ := pbox hbx rfl
        have hbw : Below B w wr := hkp.below HOWN0.out HBW.out
        obtain ⟨wa, wcap, rfl⟩ := own_shapeT hkp.own
        have HKP := Lib.hid hkp; have HBX2 := Lib.hid hbx; have HBB := Lib.hid hbw
        clear hkp hbx hbw
        by_cases hlt : j < m
        · have hjl : j < l.length := by rw [HM.out]; exact hlt
          obtain ⟨b, o, xa, xc, rfl, hbn, hx, hcs⟩ := pkid_in HP.out HBB.out (k := j) hjl
          simp only [Tr.P.kids] at hx hcs
          have hst := Tr.namess_take l j hjl
          have hsk := Tr.size_kid l j hjl
          have hs1 := Tr.sizes_take_le l (j + 1)
          have hs2 : Tr.sizes (l.take (j + 1)) = Tr.sizes (l.take j) + Tr.size l[j] := by rw [List.take_succ_eq_append_getElem hjl, Tr.sizes_append]; simp [Tr.sizes]
          have hnl := Tr.namess_len (l.take j)
          have hal := HA1.out
          have hcall := IH.out l[j] xa xc wa wcap (acc1 ++ Tr.namess (l.take j)) wr (by have := HN.out; omega) (by have := HS.out; rw [List.length_append]; omega) (Nat.le_trans HBW.out HKP.out.size) hx HKP.out.own
          unfold pv at hcall
          obtain ⟨q, hq⟩ : ∃ q, l[j] = q := ⟨_, rfl⟩
          rw [hq] at hcs hcall hst
          obtain ⟨e0, e1, e2, e3, e4, e5, e6⟩ := hcs
          obtain ⟨L, hL⟩ : ∃ L, acc1 ++ Tr.namess (l.take j) = L := ⟨_, rfl⟩
          rw [hL] at hcall ⊢
          have HKP2 := Lib.hid (hL ▸ HKP.out)
          obtain ⟨mL, hmL⟩ : ∃ z, L.length = z := ⟨_, rfl⟩
          rw [hmL] at hcall ⊢
          have HC := Lib.hid hcall; have HST := Lib.hid hst; have HML := Lib.hid hmL; have HL := Lib.hid hL
          clear hcall hst hx hq hsk hs1 hs2 hnl hal hL hmL
          go_wp2_with (go_at_call 78; refine HC.out.mono ?_; rintro e w' hp; obtain ⟨v', rfl, hkp'⟩ := SPost.kept hp; have HKP' := Lib.hid hkp'; clear hp hkp')
          go_roundg (m - (j + 1))
          case measure => omega
          case rel => exact ⟨j + 1, by omega, by first | rfl | go_num, by rw [HST.out, ← List.append_assoc, HL.out]; exact HKP2.out.trans (by rw [HML.out]; exact HKP'.out), (HKP'.out.block _ (Array.getElem?_eq_some_iff.1 HBX2.out).1 (by rw [← HML.out]; exact sbox_far HKP2.out.own HBX2.out (by decide))).trans HBX2.out, rfl⟩
        · obtain rfl : j = m := by omega
          have hp := HKP.out.post
          have htk : l.take j = l := List.take_of_length_le (by rw [HM.out]; exact Nat.le_refl _)
          simp only [htk] at hp ⊢
          have HP2 := Lib.hid hp
          clear hp
          go_wp2_with fail
          go_ret
          exact HP2.out
    · obtain ⟨acc1, hacc1⟩ : ∃ a1, acc = a1 := ⟨_, rfl⟩
      have hv : acc ++ Tr.names (.mk k f t x nm s l) = acc1 ++ Tr.namess l := by rw [← hacc1]; simp [Tr.names, hk2]
      have HV := Lib.hid hv.symm; have HA1 := Lib.hid (show acc1.length ≤ m0 + 1 by rw [← hacc1, HM0.out]; omega)
      rw [hv]
      have HK0 := Lib.hid (show SKept B (.slice va m0 vcap) w (w.alloc (.cells #[.int .i64 k, .int .i64 f, .int .i64 t, .string ⟨nm.toArray⟩, .int .i64 x, .string ⟨s.toArray⟩, .slice a m cap] 50)) (.slice va m0 vcap) acc1 from by rw [← hacc1]; exact HAL1.out)
      have HBX := HBOX
      have hkb : (k == 2) = false := by simp [hk2]
      clear hv hacc1 hi hz0 hz1 hz2 hk2
      go_enter Tryz.func78, Tryz.ntmps78
      go_upto_region 4 with fail
      clear c0 c1 c2 c3 c4 c5 c6
      go_loopg [1, 5] m (fun gk v i wr => ∃ j : Nat, j ≤ m ∧ i = .int .i64 (j : Int) ∧ SKept B (.slice va m0 vcap) w wr v (acc1 ++ Tr.namess (l.take j)) ∧ wr.heap[w.heap.size]? = some (.cells #[.int .i64 k, .int .i64 f, .int .i64 t, .string ⟨nm.toArray⟩, .int .i64 x, .string ⟨s.toArray⟩, .slice a m cap] 50 (0, 0)) ∧ gk = m - j)
      case atStart => exact ⟨0, Nat.zero_le _, rfl, by simpa [Tr.namess] using HK0.out, HBX.out, rfl⟩
      case round =>
        obtain ⟨j, hj, rfl, hkp, hbx, rfl⟩ := hrel
        obtain ⟨c0, c1, c2, c3, c4, c5, c6⟩ := pbox hbx rfl
        have hbw : Below B w wr := hkp.below HOWN0.out HBW.out
        obtain ⟨wa, wcap, rfl⟩ := own_shapeT hkp.own
        have HKP := Lib.hid hkp; have HBX2 := Lib.hid hbx; have HBB := Lib.hid hbw
        clear hkp hbx hbw
        by_cases hlt : j < m
        · have hjl : j < l.length := by rw [HM.out]; exact hlt
          obtain ⟨b, o, xa, xc, rfl, hbn, hx, hcs⟩ := pkid_in HP.out HBB.out (k := j) hjl
          simp only [Tr.P.kids] at hx hcs
          have hst := Tr.namess_take l j hjl
          have hsk := Tr.size_kid l j hjl
          have hs1 := Tr.sizes_take_le l (j + 1)
          have hs2 : Tr.sizes (l.take (j + 1)) = Tr.sizes (l.take j) + Tr.size l[j] := by rw [List.take_succ_eq_append_getElem hjl, Tr.sizes_append]; simp [Tr.sizes]
          have hnl := Tr.namess_len (l.take j)
          have hal := HA1.out
          have hcall := IH.out l[j] xa xc wa wcap (acc1 ++ Tr.namess (l.take j)) wr (by have := HN.out; omega) (by have := HS.out; rw [List.length_append]; omega) (Nat.le_trans HBW.out HKP.out.size) hx HKP.out.own
          unfold pv at hcall
          obtain ⟨q, hq⟩ : ∃ q, l[j] = q := ⟨_, rfl⟩
          rw [hq] at hcs hcall hst
          obtain ⟨e0, e1, e2, e3, e4, e5, e6⟩ := hcs
          obtain ⟨L, hL⟩ : ∃ L, acc1 ++ Tr.namess (l.take j) = L := ⟨_, rfl⟩
          rw [hL] at hcall ⊢
          have HKP2 := Lib.hid (hL ▸ HKP.out)
          obtain ⟨mL, hmL⟩ : ∃ z, L.length = z := ⟨_, rfl⟩
          rw [hmL] at hcall ⊢
          have HC := Lib.hid hcall; have HST := Lib.hid hst; have HML := Lib.hid hmL; have HL := Lib.hid hL
          clear hcall hst hx hq hsk hs1 hs2 hnl hal hL hmL
          go_wp2_with (go_at_call 78; refine HC.out.mono ?_; rintro e w' hp; obtain ⟨v', rfl, hkp'⟩ := SPost.kept hp; have HKP' := Lib.hid hkp'; clear hp hkp')
          go_roundg (m - (j + 1))
          case measure => omega
          case rel => exact ⟨j + 1, by omega, by first | rfl | go_num, by rw [HST.out, ← List.append_assoc, HL.out]; exact HKP2.out.trans (by rw [HML.out]; exact HKP'.out), (HKP'.out.block _ (Array.getElem?_eq_some_iff.1 HBX2.out).1 (by rw [← HML.out]; exact sbox_far HKP2.out.own HBX2.out (by decide))).trans HBX2.out, rfl⟩
        · obtain rfl : j = m := by omega
          have hp := HKP.out.post
          have htk : l.take j = l := List.take_of_length_le (by rw [HM.out]; exact Nat.le_refl _)
          simp only [htk] at hp ⊢
          have HP2 := Lib.hid hp
          clear hp
          go_wp2_with fail
          go_ret
          exact HP2.out
end Go.Proofs.YtjaaphahfgogdaaGreat
namespace Go.Proofs.YtjaaphahfgogdaaGreat
open Go Go.RowKit
open Tr (P)

/-- A row of names of the call's own. -/
def NamesPost (L : List (List UInt8)) (w : World) (e : Ending) (w' : World) : Prop := ∃ v, e = .returned v ∧ w'.ownsRow w.heap.size 9 1 v L.length (L.map strV) ∧ Below w.heap.size w w'
set_option maxRecDepth 100000 in
theorem rNames_any (p : P) (a : Option Addr) (cap : Nat) (w : World) (hs : Tr.size p ≤ 10000) (hp : PatAt (LT w.heap.size) w p a cap) :
    Calls Tryz.prog 37 #[pv p a cap] w (NamesPost (Tr.names p) w) := by
  have hb0 : Below w.heap.size w (w.alloc (.cells #[.int .i64 p.kind, .int .i64 p.frm, .int .i64 p.til, .string ⟨p.nm.toArray⟩, .int .i64 p.num, .string ⟨p.s.toArray⟩, .slice a p.kids.length cap] 50)) := (Below.refl _ _).alloc (Nat.le_refl _) _
  generalize hw1 : w.alloc (.cells #[.int .i64 p.kind, .int .i64 p.frm, .int .i64 p.til, .string ⟨p.nm.toArray⟩, .int .i64 p.num, .string ⟨p.s.toArray⟩, .slice a p.kids.length cap] 50) = w1 at hb0
  have h0 := World.ownsRow_nil w1 w.heap.size 9 1
  have hcl := rnames_any w.heap.size _ p a cap none 0 [] w1 (Nat.le_refl _) (by simpa using hs) hb0.size (hp.below hb0 (fun _ h => h) (fun _ h => h)) h0
  have hnw : w1.heap[w.heap.size]? = some (.cells #[.int .i64 p.kind, .int .i64 p.frm, .int .i64 p.til, .string ⟨p.nm.toArray⟩, .int .i64 p.num, .string ⟨p.s.toArray⟩, .slice a p.kids.length cap] 50) := by rw [← hw1]; exact World.alloc_heap_new w _
  obtain ⟨c0, c1, c2, c3, c4, c5, c6⟩ := pbox hnw rfl
  unfold pv at hcl ⊢
  have HCL := Lib.hid hcl; have HB0 := Lib.hid hb0; have HW1 := Lib.hid hw1
  clear hcl hp hs hb0 hw1 hnw
  go_enter Tryz.func37, Tryz.ntmps37
  go_upto_region 1 with fail
  rw [HW1.out]
  go_wp2_with fail
  refine HCL.out.mono ?_
  rintro e w' hpost
  obtain ⟨v', rfl, hk⟩ := SPost.kept hpost
  have hb := hk.below (acc0 := []) h0 HB0.out.size
  have ho := hk.own
  rw [List.nil_append] at ho
  clear hpost hk c0 c1 c2 c3 c4 c5 c6
  go_wp2_with fail
  go_ret
  exact ⟨_, rfl, ho, HB0.out.trans hb⟩
theorem smem_take_succ {L : List (List UInt8)} {k : Nat} (h : k < L.length) (s : List UInt8) : s ∈ L.take (k + 1) ↔ s ∈ L.take k ∨ s = L[k] := by
  rw [List.take_succ_eq_append_getElem h, List.mem_append, List.mem_singleton]
set_option maxHeartbeats 1000000 in
theorem rhas_any (L : List (List UInt8)) (a : Option Addr) (cap : Nat) (s : List UInt8) (w : World) (hL : L.length ≤ 1000000) (hr : SRow w a L) :
    Calls Tryz.prog 38 #[.slice a L.length cap, .string ⟨s.toArray⟩] w fun e w' => e = .returned (.bool (decide (s ∈ L))) ∧ w = w' := by
  obtain ⟨m, hm⟩ : ∃ m, L.length = m := ⟨_, rfl⟩
  obtain ⟨res, hres⟩ : ∃ res, decide (s ∈ L) = res := ⟨_, rfl⟩
  rw [hm] at hL ⊢; rw [hres]
  have HM := Lib.hid hm; have HRES := Lib.hid hres; have HR := Lib.hid hr; clear hm hres hr
  go_enter Tryz.func38, Tryz.ntmps38
  go_wp2_with fail
  go_loopg [5] m (fun gk i wr => ∃ k : Nat, k ≤ m ∧ i = .int .i64 (k : Int) ∧ ¬ s ∈ L.take k ∧ w = wr ∧ gk = m - k)
  case atStart => exact ⟨0, Nat.zero_le _, rfl, by simp, rfl, rfl⟩
  case round =>
    obtain ⟨k, hk, rfl, hq, hw, rfl⟩ := hrel
    subst hw
    have HQ := Lib.hid hq; clear hq
    by_cases hlt : k < m
    · have hkl : k < L.length := by rw [HM.out]; exact hlt
      rcases HR.out with h0 | ⟨b, o, rfl, hb, hc⟩
      · rw [h0] at hkl; simp at hkl
      · have hck := hc k hkl
        have hmt := smem_take_succ hkl s
        obtain ⟨x, hx⟩ : ∃ x, L[k] = x := ⟨_, rfl⟩
        rw [hx] at hck hmt
        unfold strV at hck
        have hmem : x ∈ L := by rw [← hx]; exact List.getElem_mem hkl
        have HMT := Lib.hid hmt; have HMEM := Lib.hid hmem; clear hc hmt hmem hx hkl
        by_cases hxq : x = s
        · have g1 : (x == s) = true := by simp [hxq]
          have HXQ := Lib.hid hxq; clear hxq
          go_wp2_with fail
          go_ret
          refine ⟨?_, rfl⟩
          rw [← HRES.out, decide_eq_true (HXQ.out ▸ HMEM.out)]
          rfl
        · have g1 : (x == s) = false := by simp [hxq]
          have HXQ := Lib.hid hxq; clear hxq
          go_wp2_with fail
          go_roundg (m - (k + 1))
          case measure => omega
          case rel => exact ⟨k + 1, by omega, by first | rfl | go_num, fun h => (HMT.out.1 h).elim HQ.out (fun e => HXQ.out e.symm), rfl, rfl⟩
    · obtain rfl : k = m := by omega
      go_wp2_with fail
      go_ret
      refine ⟨?_, rfl⟩
      rw [← HRES.out, decide_eq_false (by have := HQ.out; rwa [List.take_of_length_le (by rw [HM.out]; exact Nat.le_refl _)] at this)]
      rfl
end Go.Proofs.YtjaaphahfgogdaaGreat
namespace Go.Proofs.YtjaaphahfgogdaaGreat
open Go Go.RowKit

theorem ret_boolX {a b : Bool} (h : a = b) : Ending.returned (Value.bool a) = Ending.returned (Value.bool b) := by rw [h]
theorem below_drewX {w wr : World} {B : Nat} (h : Below B w wr) (n : Nat) : Below B w (wr.drewN n) := ⟨h.os, h.tape, h.output, h.size, h.block⟩
set_option maxHeartbeats 1000000 in
theorem texts_any (L K : List (List UInt8)) (a : Option Addr) (cap : Nat) (a' : Option Addr) (cap' : Nat) (w : World) (hL : L.length ≤ 1000000) (hK : K.length ≤ 1000000) (hr : SRow w a L) (hr' : SRow w a' K) :
    Calls Tryz.prog 26 #[.slice a L.length cap, .slice a' K.length cap'] w fun e w' => e = .returned (.bool (decide (L = K))) ∧ Below w.heap.size w w' := by
  obtain ⟨m, hm⟩ : ∃ m, L.length = m := ⟨_, rfl⟩
  obtain ⟨m', hm'⟩ : ∃ m, K.length = m := ⟨_, rfl⟩
  obtain ⟨res, hres⟩ : ∃ res, decide (L = K) = res := ⟨_, rfl⟩
  rw [hm] at hL ⊢; rw [hm'] at hK ⊢; rw [hres]
  have HM := Lib.hid hm; have HM' := Lib.hid hm'; have HRES := Lib.hid hres; have HR := Lib.hid hr; have HR' := Lib.hid hr'; clear hm hm' hres hr hr'
  by_cases hmm : m = m'
  · subst hmm
    go_enter Tryz.func26, Tryz.ntmps26
    go_wp2_with fail
    go_loopg [5] m (fun gk i wr => ∃ k : Nat, k ≤ m ∧ i = .int .i64 k ∧ L.take k = K.take k ∧ Below w.heap.size w wr ∧ gk = m - k)
    case atStart => exact ⟨0, Nat.zero_le _, rfl, by simp, Below.refl _ _, rfl⟩
    case round =>
      obtain ⟨k, hk, rfl, hq, hb, rfl⟩ := hrel
      have HQ := Lib.hid hq; have HB := Lib.hid hb; clear hq hb
      by_cases hlt : k < m
      · have hkl : k < L.length := by rw [HM.out]; exact hlt
        have hkl' : k < K.length := by rw [HM'.out]; exact hlt
        rcases HR.out.below HB.out (Nat.le_refl _) with h0 | ⟨b, o, rfl, hb, hc⟩
        · rw [h0] at hkl; simp at hkl
        · rcases HR'.out.below HB.out (Nat.le_refl _) with h0 | ⟨b', o', rfl, hb', hc'⟩
          · rw [h0] at hkl'; simp at hkl'
          · have hck := hc k hkl
            have hck' := hc' k hkl'
            have htk : L.take (k + 1) = L.take k ++ [L[k]] := List.take_succ_eq_append_getElem hkl
            have htk' : K.take (k + 1) = K.take k ++ [K[k]] := List.take_succ_eq_append_getElem hkl'
            have hne : L[k] ≠ K[k] → L ≠ K := fun h e => h (by subst e; rfl)
            obtain ⟨x, hx⟩ : ∃ x, L[k] = x := ⟨_, rfl⟩
            obtain ⟨y, hy⟩ : ∃ x, K[k] = x := ⟨_, rfl⟩
            rw [hx] at hck htk hne; rw [hy] at hck' htk' hne
            unfold strV at hck hck'
            have HT := Lib.hid htk; have HT' := Lib.hid htk'; have HNE := Lib.hid hne; clear hc hc' htk htk' hx hy hkl hkl' hne hb hb'
            by_cases hxq : x = y
            · have g1 : (x == y) = true := by simp [hxq]
              have HXQ := Lib.hid hxq; clear hxq
              go_wp2_with fail
              go_quiet (fail)
              go_wp2_with fail
              go_roundg (m - (k + 1))
              case measure => omega
              case rel => exact ⟨k + 1, by omega, by go_num, by rw [HT.out, HT'.out, HQ.out, HXQ.out], below_drewX HB.out _, rfl⟩
            · have g1 : (x == y) = false := by simp [hxq]
              have HXQ := Lib.hid hxq; clear hxq
              go_wp2_with fail
              go_quiet (fail)
              go_wp2_with fail
              go_ret
              exact ⟨ret_boolX (by rw [← HRES.out]; exact (decide_eq_false (HNE.out HXQ.out)).symm), below_drewX HB.out _⟩
      · obtain rfl : k = m := by omega
        go_wp2_with fail
        go_ret
        exact ⟨ret_boolX (by rw [← HRES.out]; exact (decide_eq_true (by have := HQ.out; rwa [List.take_of_length_le (by rw [HM.out]; exact Nat.le_refl _), List.take_of_length_le (by rw [HM'.out]; exact Nat.le_refl _)] at this)).symm), HB.out⟩
  · have g1 : ((m : Int) != (m' : Int)) = true := by simp; omega
    have HMM := Lib.hid hmm; clear hmm
    go_enter Tryz.func26, Tryz.ntmps26
    go_wp2_with fail
    go_ret
    exact ⟨ret_boolX (by rw [← HRES.out]; exact (decide_eq_false (fun e => HMM.out (by rw [← HM.out, ← HM'.out, e]))).symm), Below.refl _ _⟩
/-- An expression that is a name. -/
def nameE (s : List UInt8) : Ex.E := .mk 1 0 0 s [] 0 [] 0 (.mk 0 0 []) (.mk 0 0 []) [] []
def noL : Leads := ⟨none, 0, none, 0, none, 0, none, 0⟩
set_option maxRecDepth 100000 in
set_option maxHeartbeats 1000000 in
theorem sname_any (s : List UInt8) (w : World) :
    Calls Tryz.prog 73 #[.string ⟨s.toArray⟩] w fun e w' => e = .returned (ev (nameE s) noL) ∧ Below w.heap.size w w' := by
  go_enter Tryz.func73, Tryz.ntmps73
  go_wp2
  have hg : (w.alloc (.cells #[.int .i64 1, .int .i64 0, .int .i64 0, .string ⟨s.toArray⟩, .string ⟨#[]⟩, .int .i64 0, .string ⟨#[]⟩, .int .i64 0, .int .i64 0, .int .i64 0, .slice none 0 0, .int .i64 0, .int .i64 0, .slice none 0 0, .slice none 0 0, .slice none 0 0] 30)).heap[w.heap.size]? = some (.cells #[.int .i64 1, .int .i64 0, .int .i64 0, .string ⟨s.toArray⟩, .string ⟨#[]⟩, .int .i64 0, .string ⟨#[]⟩, .int .i64 0, .int .i64 0, .int .i64 0, .slice none 0 0, .int .i64 0, .int .i64 0, .slice none 0 0, .slice none 0 0, .slice none 0 0] 30) := World.alloc_heap_new w _
  exact bodyPost_ret_by (v := ev (nameE s) noL) (results_cell_row (p := 2) (ty := 30) (by kernel_rfl) _ _ w.heap.size 30 _ (0, 0) _ rfl hg Tryz.underlying30 rfl (by kernel_rfl)) rfl ⟨rfl, (Below.refl _ _).alloc (Nat.le_refl _) _⟩
end Go.Proofs.YtjaaphahfgogdaaGreat
