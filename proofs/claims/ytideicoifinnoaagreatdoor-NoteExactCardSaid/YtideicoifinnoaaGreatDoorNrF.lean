/- The reader's atom: its opening parentheses. -/
import Derived.Test.YtideicoifinnoaaGreatDoorNrA
import Derived.Deep.LoopGhost
import Derived.Laws.ResultCell
namespace Go.Proofs.YtideicoifinnoaaGreatDoor
open Go Go.RowKit
open Tp (T)

def isP (x : Lx.Tok) : Bool := decide (x.kind = 5) && decide (x.s = [40])
/-- How many opening parentheses come next. -/
def opens (L : List Lx.Tok) (next : Nat) : Nat := ((L.drop next).takeWhile isP).length
/-- A store into a box of the call's own. -/
theorem RdAt.box {n0 : Nat} {L : List Lx.Tok} {la : Option Addr} {lcap rb next : Nat} {S : List Bg} {v : Value} {w : World} (h : RdAt n0 L la lcap rb next S v w) {c j : Nat} {cur : Array Value} {fz : Nat × Nat} (hc : w.heap[c]? = some (Obj.cells cur 24 fz)) (hn : n0 ≤ c) (u : Value) :
    RdAt n0 L la lcap rb next S v (w.setCell ⟨c, j, none⟩ u) := by
  have hcr : rb ≠ c := fun e => by
    subst e
    have h1 := h.heap
    rw [hc] at h1
    injection h1 with h1
    injection h1 with _ h1
    revert h1; decide
  refine ⟨(Below.heap_setCell _ _ _ _ hcr).trans h.heap, own_same h.own (fun g hg => Below.heap_setCell _ _ _ _ (fun e => ?_)), h.toks.below ((Below.refl n0 w).setCell (p := ⟨c, j, none⟩) hn _), h.base, h.fit, h.small⟩
  obtain ⟨_, ⟨h1, _⟩ | ⟨g', _, _, h1, _, h3, _⟩⟩ := id h.own
  · rw [h1] at hg; cases hg
  · rw [h1] at hg
    have e1 : g' = g := by injection hg
    have e2 : g = c := e
    rw [e1, e2, hc] at h3
    injection h3 with h3
    injection h3 with _ h3
    revert h3; decide
/-- Three stores into a box, what they leave. -/
structure Boxed (c : Nat) (w w' : World) (x y z : Value) : Prop where
  cells : w'.heap[c]? = some (Obj.cells #[x, y, z] 24 (0, 0))
  rest : ∀ k, k ≠ c → w'.heap[k]? = w.heap[k]?
  size : w'.heap.size = w.heap.size
theorem boxed {c : Nat} {w : World} {x0 y0 z0 : Value} (h : w.heap[c]? = some (Obj.cells #[x0, y0, z0] 24 (0, 0))) (x y z : Value) : Boxed c w (((w.setCell ⟨c, 0, none⟩ x).setCell ⟨c, 1, none⟩ y).setCell ⟨c, 2, none⟩ z) x y z :=
  ⟨set2 (set1 (set0 h)), fun k hk => by rw [Below.heap_setCell _ _ _ _ hk, Below.heap_setCell _ _ _ _ hk, Below.heap_setCell _ _ _ _ hk], by simp [World.setCell]⟩
theorem RdAt.boxes {n0 : Nat} {L : List Lx.Tok} {la : Option Addr} {lcap rb next : Nat} {S : List Bg} {v : Value} {w : World} (h : RdAt n0 L la lcap rb next S v w) {c : Nat} {x0 y0 z0 : Value} (hc : w.heap[c]? = some (Obj.cells #[x0, y0, z0] 24 (0, 0))) (hn : n0 ≤ c) (x y z : Value) :
    RdAt n0 L la lcap rb next S v (((w.setCell ⟨c, 0, none⟩ x).setCell ⟨c, 1, none⟩ y).setCell ⟨c, 2, none⟩ z) :=
  ((h.box hc hn x).box (set0 hc) hn y).box (set1 (set0 hc)) hn z
theorem opens_zero {L : List Lx.Tok} {n : Nat} (h : isTk L n 5 [40] = false) : opens L n = 0 := by
  unfold opens
  cases hx : L[n]? with
  | none => rw [List.drop_eq_nil_of_le (by have := List.getElem?_eq_none_iff.1 hx; omega)]; rfl
  | some x =>
    obtain ⟨hlt, hx'⟩ := List.getElem?_eq_some_iff.1 hx
    rw [List.drop_eq_getElem_cons hlt, hx']
    rw [isTk_some hx] at h
    have : isP x = false := h
    rw [List.takeWhile_cons, this]
    rfl
theorem opens_succ {L : List Lx.Tok} {n : Nat} (h : isTk L n 5 [40] = true) : opens L n = opens L (n + 1) + 1 := by
  unfold opens
  cases hx : L[n]? with
  | none => unfold isTk at h; rw [hx] at h; cases h
  | some x =>
    obtain ⟨hlt, hx'⟩ := List.getElem?_eq_some_iff.1 hx
    rw [List.drop_eq_getElem_cons hlt, hx']
    rw [isTk_some hx] at h
    have : isP x = true := h
    rw [List.takeWhile_cons, this]
    simp
theorem opens_le (L : List Lx.Tok) (n : Nat) (h : n ≤ L.length) : n + opens L n ≤ L.length := by
  unfold opens
  have := (List.takeWhile_sublist (p := isP) (l := L.drop n)).length_le
  rw [List.length_drop] at this
  omega
def paren : Bg := ⟨1, Nt.noT, none, 0⟩
/-- The leaf that comes next. -/
def leafAt (L : List Lx.Tok) (n : Nat) : Option Nat :=
  if isTk L n 2 Nt.sInt = true then some 1 else if isTk L n 2 Nt.sBool = true then some 2 else if isTk L n 2 Nt.sStr = true then some 3 else if isTk L n 2 Nt.sUnit = true then some 4 else if isTk L n 5 Nt.sDyn = true then some 5 else none
def leafT (k : Nat) : T := .mk (k : Int) 0 []
/-- What an atom hands back: the leaf and whether there is one; where the reader is, what is begun. -/
def atomR (L : List Lx.Tok) (next : Nat) : Nat × Bool × Nat := match leafAt L (next + opens L next) with | some k => (k, true, next + opens L next + 1) | none => (5, false, next + opens L next)
theorem leaf_hit {L : List Lx.Tok} {n k : Nat} (h1 : 1 ≤ k) (h4 : k ≤ 4) (hno : ∀ i : Nat, 1 ≤ i → i < k → isTk L n 2 (Nt.leafTx (i : Int) 0) = false) (hr : isTk L n 2 (Nt.leafTx (k : Int) 0) = true) : leafAt L n = some k := by
  have hk : k = 1 ∨ k = 2 ∨ k = 3 ∨ k = 4 := by omega
  have e1 : Nt.leafTx ((1 : Nat) : Int) 0 = Nt.sInt := rfl
  have e2 : Nt.leafTx ((2 : Nat) : Int) 0 = Nt.sBool := rfl
  have e3 : Nt.leafTx ((3 : Nat) : Int) 0 = Nt.sStr := rfl
  have e4 : Nt.leafTx ((4 : Nat) : Int) 0 = Nt.sUnit := rfl
  unfold leafAt
  rcases hk with rfl | rfl | rfl | rfl
  · rw [e1] at hr; rw [if_pos hr]
  · have f1 := hno 1 (by omega) (by omega)
    rw [e1] at f1; rw [e2] at hr
    rw [if_neg (by rw [f1]; simp), if_pos hr]
  · have f1 := hno 1 (by omega) (by omega)
    have f2 := hno 2 (by omega) (by omega)
    rw [e1] at f1; rw [e2] at f2; rw [e3] at hr
    rw [if_neg (by rw [f1]; simp), if_neg (by rw [f2]; simp), if_pos hr]
  · have f1 := hno 1 (by omega) (by omega)
    have f2 := hno 2 (by omega) (by omega)
    have f3 := hno 3 (by omega) (by omega)
    rw [e1] at f1; rw [e2] at f2; rw [e3] at f3; rw [e4] at hr
    rw [if_neg (by rw [f1]; simp), if_neg (by rw [f2]; simp), if_neg (by rw [f3]; simp), if_pos hr]
theorem leaf_last {L : List Lx.Tok} {n : Nat} (hno : ∀ i : Nat, 1 ≤ i → i < 5 → isTk L n 2 (Nt.leafTx (i : Int) 0) = false) : leafAt L n = if isTk L n 5 Nt.sDyn = true then some 5 else none := by
  have f1 := hno 1 (by omega) (by omega)
  have f2 := hno 2 (by omega) (by omega)
  have f3 := hno 3 (by omega) (by omega)
  have f4 := hno 4 (by omega) (by omega)
  rw [show Nt.leafTx ((1 : Nat) : Int) 0 = Nt.sInt from rfl] at f1
  rw [show Nt.leafTx ((2 : Nat) : Int) 0 = Nt.sBool from rfl] at f2
  rw [show Nt.leafTx ((3 : Nat) : Int) 0 = Nt.sStr from rfl] at f3
  rw [show Nt.leafTx ((4 : Nat) : Int) 0 = Nt.sUnit from rfl] at f4
  unfold leafAt
  rw [if_neg (by rw [f1]; simp), if_neg (by rw [f2]; simp), if_neg (by rw [f3]; simp), if_neg (by rw [f4]; simp)]
def AtomPost (n0 : Nat) (L : List Lx.Tok) (la : Option Addr) (lcap rb next : Nat) (S : List Bg) (w : World) (e : Ending) (w' : World) : Prop :=
  e = .returned (.tuple #[tv (leafT (atomR L next).1) none 0, .bool (atomR L next).2.1]) ∧ (∃ v', RdAt n0 L la lcap rb (atomR L next).2.2 (List.replicate (opens L next) paren ++ S) v' w') ∧ KeepR rb w w' ∧ Below n0 w w'
set_option maxRecDepth 100000 in
set_option maxHeartbeats 4000000 in
theorem atom_any {n0 : Nat} {L : List Lx.Tok} {la : Option Addr} {lcap rb next : Nat} {S : List Bg} {v : Value} {w : World} (h : RdAt n0 L la lcap rb next S v w) (hS : S.length ≤ 500000) (hgn : ∀ w', Below n0 w w' → Good w') :
    Calls Tryz.prog 26 #[.pointer (some ⟨rb, 0, none⟩)] w (AtomPost n0 L la lcap rb next S w) := by
  have hal : Below w.heap.size w (w.alloc (.cells #[.int .i64 0, .int .i64 0, .slice none 0 0] 24)) := (Below.refl _ _).alloc (Nat.le_refl _) _
  have hnew := World.alloc_heap_new w (.cells #[.int .i64 0, .int .i64 0, .slice none 0 0] 24)
  have h1 := h.later h.le hal
  have hrb : rb < w.heap.size := (Array.getElem?_eq_some_iff.1 h.heap).1
  have HH := Lib.hid h; have HAL := Lib.hid hal; have HS := Lib.hid hS; have HGN := Lib.hid hgn; have H1 := Lib.hid h1; have HNEW := Lib.hid hnew; have HRB := Lib.hid hrb
  clear h hal hS hgn h1 hnew hrb
  go_enter Tryz.func26, Tryz.ntmps26
  go_wp2_with fail
  go_loopg [6] (opens L next + 1) (fun gk _ wr => ∃ (j : Nat) (vv : Value), j + opens L (next + j) = opens L next ∧ RdAt n0 L la lcap rb (next + j) (List.replicate j paren ++ S) vv wr ∧ KeepR rb w wr ∧ Below n0 w wr ∧ wr.heap[w.heap.size]? = some (Obj.cells #[.int .i64 0, .int .i64 0, .slice none 0 0] 24 (0, 0)) ∧ gk = opens L next - j + 1)
  case atStart => exact ⟨0, _, by simp, H1.out, KeepR.of_below HAL.out, HAL.out.mono HH.out.le, HNEW.out, by simp⟩
  case round =>
    obtain ⟨j0, vv, hj, hrd, hkp, hlow, hbox, rfl⟩ := hrel
    have HJ := Lib.hid hj; have HRD := Lib.hid hrd; have HKP := Lib.hid hkp; have HLOW := Lib.hid hlow; have HBOX := Lib.hid hbox
    clear hj hrd hkp hlow hbox
    obtain ⟨r, hr⟩ : ∃ r, isTk L (next + j0) 5 [40] = r := ⟨_, rfl⟩
    have htk := take_any HRD.out 5 [40]
    rw [hr] at htk
    have HTK := Lib.hid htk; have HR := Lib.hid hr
    clear htk hr
    go_wp2_with fail
    refine HTK.out.mono ?_
    rintro e w2 ⟨rfl, hrd2, hkp2, hlow2, hsz2⟩
    have hbox2 : w2.heap[w.heap.size]? = some (Obj.cells #[.int .i64 0, .int .i64 0, .slice none 0 0] 24 (0, 0)) := (hkp2.cell24 HRD.out.heap (o := 0) ⟨_, _, HBOX.out⟩).1.trans HBOX.out
    have hkw2 := HKP.out.trans hkp2 (by have := HAL.out.size; have := (Array.getElem?_eq_some_iff.1 HBOX.out).1; omega)
    have hlw2 := HLOW.out.trans hlow2
    cases r with
    | true =>
      have hs1 := opens_succ HR.out
      have hbg := begin_any hrd2 (by rw [List.length_append, List.length_replicate]; have := HS.out; have := HRD.out.fit; have := HRD.out.small; omega) 1 Nt.noT none 0
      have HBG := Lib.hid hbg; have HS1 := Lib.hid hs1; have HBOX2 := Lib.hid hbox2; have HKW2 := Lib.hid hkw2; have HLW2 := Lib.hid hlw2; have HRD2 := Lib.hid hrd2
      clear hbg hs1 hbox2 hkw2 hlw2 hrd2 hkp2 hlow2 hsz2
      go_wp2_with fail
      refine HBG.out.mono ?_
      rintro e w3 ⟨⟨u, rfl⟩, ⟨v3, hrd3⟩, hkp3, hlow3⟩
      have hbox3 : w3.heap[w.heap.size]? = some (Obj.cells #[.int .i64 0, .int .i64 0, .slice none 0 0] 24 (0, 0)) := (hkp3.cell24 HRD2.out.heap (o := 0) ⟨_, _, HBOX2.out⟩).1.trans HBOX2.out
      have hkw3 := HKW2.out.trans hkp3 (by have := HAL.out.size; have := (Array.getElem?_eq_some_iff.1 HBOX2.out).1; omega)
      have HF := Lib.hid (show ∃ (j : Nat) (vv : Value), j + opens L (next + j) = opens L next ∧ RdAt n0 L la lcap rb (next + j) (List.replicate j paren ++ S) vv w3 ∧ KeepR rb w w3 ∧ Below n0 w w3 ∧ w3.heap[w.heap.size]? = some (Obj.cells #[.int .i64 0, .int .i64 0, .slice none 0 0] 24 (0, 0)) ∧ opens L next - (j0 + 1) + 1 = opens L next - j + 1 from
        ⟨j0 + 1, v3, by have := HJ.out; have := HS1.out; rw [← Nat.add_assoc]; omega, by rw [← Nat.add_assoc, List.replicate_succ, List.cons_append]; exact hrd3, hkw3, HLW2.out.trans hlow3, hbox3, rfl⟩)
      clear hrd3 hkp3 hlow3 hbox3 hkw3
      go_wp2_with fail
      go_roundg (opens L next - (j0 + 1) + 1)
      case measure => have := HJ.out; have := HS1.out; omega
      case rel => exact HF.out
    | false =>
      have hz := opens_zero HR.out
      have hjo : j0 = opens L next := by have := HJ.out; omega
      subst hjo
      rw [if_neg (by simp)] at hrd2
      obtain ⟨n, hn⟩ : ∃ n, next + opens L next = n := ⟨_, rfl⟩
      rw [hn] at hrd2
      obtain ⟨S1, hS1⟩ : ∃ S1, List.replicate (opens L next) paren ++ S = S1 := ⟨_, rfl⟩
      rw [hS1] at hrd2
      have HN := Lib.hid hn; have HS1 := Lib.hid hS1; have HRD2 := Lib.hid hrd2; have HKW2 := Lib.hid hkw2; have HLW2 := Lib.hid hlw2; have HBOX2 := Lib.hid hbox2
      clear hz hn hS1 hrd2 hkw2 hlw2 hbox2 hkp2 hlow2 hsz2
      go_wp2_with fail
      go_loopg [4] 5 (fun gk v4 wr => ∃ (k : Nat), 1 ≤ k ∧ k ≤ 5 ∧ v4 = .int .i64 (k : Int) ∧ RdAt n0 L la lcap rb n S1 vv wr ∧ KeepR rb w wr ∧ Below n0 w wr ∧ wr.heap[w.heap.size]? = some (Obj.cells #[.int .i64 0, .int .i64 0, .slice none 0 0] 24 (0, 0)) ∧ (∀ i : Nat, 1 ≤ i → i < k → isTk L n 2 (Nt.leafTx (i : Int) 0) = false) ∧ gk = 6 - k)
      case atStart => exact ⟨1, by omega, by omega, rfl, HRD2.out, HKW2.out, HLW2.out, HBOX2.out, fun i h1 h2 => by omega, rfl⟩
      case round =>
        obtain ⟨k, hk1, hk5, rfl, hrd, hkp, hlow, hbox, hno, rfl⟩ := hrel
        have HRD := Lib.hid hrd; have HKP := Lib.hid hkp; have HLOW := Lib.hid hlow; have HBOX := Lib.hid hbox; have HNO := Lib.hid hno
        have HWS := Lib.hid (show w.heap.size < wr.heap.size from (Array.getElem?_eq_some_iff.1 hbox).1)
        clear hrd hkp hlow hbox hno
        by_cases hk4 : k ≤ 4
        · have hk4' : (k : Int) ≤ 4 := by omega
          have hwa : Below wr.heap.size wr (wr.alloc (.cells #[.int .i64 (k : Int), .int .i64 0, .slice none 0 0] 24)) := (Below.refl _ _).alloc (Nat.le_refl _) _
          have hlf : Calls Tryz.prog 17 #[.agg #[.int .i64 (k : Int), .int .i64 0, .slice none 0 0]] (wr.alloc (.cells #[.int .i64 (k : Int), .int .i64 0, .slice none 0 0] 24)) fun e w' => e = .returned (.string ⟨(Nt.leafTx (k : Int) 0).toArray⟩) ∧ Below (wr.alloc (.cells #[.int .i64 (k : Int), .int .i64 0, .slice none 0 0] 24)).heap.size (wr.alloc (.cells #[.int .i64 (k : Int), .int .i64 0, .slice none 0 0] 24)) w' :=
            leaf_any (leafT k) none 0 _ (HGN.out _ (HLOW.out.trans (hwa.mono HRD.out.le))) (by show Wd.inI64 0; unfold Wd.inI64; omega)
          have HWA := Lib.hid hwa; have HLF := Lib.hid hlf
          clear hwa hlf
          go_wp2_with fail
          refine HLF.out.mono ?_
          rintro e w3 ⟨rfl, hb3⟩
          have f0 := box_later hb3 0
          have f1 := box_later hb3 1
          have f2 := box_later hb3 2
          have hbx3 : w3.heap[wr.heap.size]? = some (Obj.cells #[.int .i64 (k : Int), .int .i64 0, .slice none 0 0] 24 (0, 0)) := (hb3.block wr.heap.size (by simp)).trans (World.alloc_heap_new wr _)
          have hb3' := HWA.out.trans (hb3.mono HWA.out.size)
          obtain ⟨s, hs⟩ : ∃ s, Nt.leafTx (k : Int) 0 = s := ⟨_, rfl⟩
          rw [hs]
          obtain ⟨r, hr⟩ : ∃ r, isTk L n 2 s = r := ⟨_, rfl⟩
          have htk := take_any (HRD.out.later HRD.out.le hb3') 2 s
          rw [hr] at htk
          have HTK := Lib.hid htk; have HR2 := Lib.hid hr; have HS2 := Lib.hid hs; have HB3 := Lib.hid hb3'; have HBX3 := Lib.hid hbx3
          clear htk hr hs hb3 hb3' hbx3
          go_wp2_with fail
          refine HTK.out.mono ?_
          rintro e w4 ⟨rfl, hrd4, hkp4, hlow4, hsz4⟩
          clear f0 f1 f2
          have hbox3 := (HB3.out.block w.heap.size HWS.out).trans HBOX.out
          have hrd3 := HRD.out.later HRD.out.le HB3.out
          have hbox4 := ((hkp4.cell24 hrd3.heap (o := 0) ⟨_, _, hbox3⟩).1.trans hbox3)
          have hbx4 := ((hkp4.cell24 hrd3.heap (o := 0) ⟨_, _, HBX3.out⟩).1.trans HBX3.out)
          have hkw4 := (HKP.out.trans (KeepR.of_below HB3.out) (Nat.le_of_lt HWS.out)).trans hkp4 (Nat.le_trans (Nat.le_of_lt HWS.out) HB3.out.size)
          have hlw4 := (HLOW.out.trans (HB3.out.mono HRD.out.le)).trans hlow4
          have HKW4 := Lib.hid hkw4; have HLW4 := Lib.hid hlw4; have HRD4 := Lib.hid hrd4; have HBOX4 := Lib.hid hbox4
          cases r with
          | true =>
            have y0 : w4.cell? ⟨w.heap.size, 0, none⟩ = some (.int .i64 0) := cell_box hbox4 rfl rfl
            have y1 : w4.cell? ⟨w.heap.size, 1, none⟩ = some (.int .i64 0) := cell_box hbox4 rfl rfl
            have y2 : w4.cell? ⟨w.heap.size, 2, none⟩ = some (.slice none 0 0) := cell_box hbox4 rfl rfl
            have x0 : w4.cell? ⟨wr.heap.size, 0, none⟩ = some (.int .i64 (k : Int)) := cell_box hbx4 rfl rfl
            have x1 : w4.cell? ⟨wr.heap.size, 1, none⟩ = some (.int .i64 0) := cell_box hbx4 rfl rfl
            have x2 : w4.cell? ⟨wr.heap.size, 2, none⟩ = some (.slice none 0 0) := cell_box hbx4 rfl rfl
            have zz : ∀ j, w4.frozen? ⟨w.heap.size, j, none⟩ = false := fun j => by simp [World.frozen?, hbox4]
            have hBX := boxed hbox4 (.int .i64 (k : Int)) (.int .i64 0) (.slice none 0 0)
            have hRX := HRD4.out.boxes hbox4 HH.out.le (.int .i64 (k : Int)) (.int .i64 0) (.slice none 0 0)
            have hlx : Below n0 w4 (((w4.setCell ⟨w.heap.size, 0, none⟩ (.int .i64 (k : Int))).setCell ⟨w.heap.size, 1, none⟩ (.int .i64 0)).setCell ⟨w.heap.size, 2, none⟩ (.slice none 0 0)) := (((Below.refl n0 w4).setCell (p := ⟨w.heap.size, 0, none⟩) HH.out.le _).setCell (p := ⟨w.heap.size, 1, none⟩) HH.out.le _).setCell (p := ⟨w.heap.size, 2, none⟩) HH.out.le _
            have HBX := Lib.hid hBX; have HRX := Lib.hid hRX; have HLX := Lib.hid hlx
            clear hkw4 hlw4 hrd4 hbox4 hbx4 hkp4 hlow4 hsz4 hrd3 hbox3 hBX hRX hlx
            go_wp2_with fail
            have hBX := HBX.out
            have hRX := HRX.out
            have hlx := HLX.out
            generalize ((w4.setCell ⟨w.heap.size, 0, none⟩ (.int .i64 (k : Int))).setCell ⟨w.heap.size, 1, none⟩ (.int .i64 0)).setCell ⟨w.heap.size, 2, none⟩ (.slice none 0 0) = w5 at hBX hRX hlx ⊢
            have hlh := leaf_hit hk1 hk4 HNO.out (by rw [HS2.out]; exact HR2.out)
            refine bodyPost_ret_by (v := .tuple #[.agg #[.int .i64 (k : Int), .int .i64 0, .slice none 0 0], .bool true]) ?_ rfl ?_
            · rw [results_cell_tmp (p := 2) (u := 3) (ty := 24) (by kernel_rfl)]
              simp [asAddr, Result.andThen, run_loadVar_row w5 _ 24 24 _ _ _ hBX.cells Tryz.underlying24 rfl (by kernel_rfl)]
            · unfold AtomPost atomR
              rw [HN.out, hlh, HS1.out]
              refine ⟨rfl, ⟨vv, ?_⟩, ?_, HLW4.out.trans hlx⟩
              · simpa using hRX
              · intro q h1 h2 h3
                rw [hBX.rest q (by omega)]
                exact HKW4.out q h1 h2 h3
          | false =>
            clear hkw4 hlw4 hrd4 hbox4 hbx4 hkp4 hlow4 hsz4 hrd3 hbox3
            go_wp2_with fail
            go_roundg (6 - (k + 1))
            case measure => omega
            case rel =>
              exact ⟨k + 1, by omega, by omega, by first | go_num | rfl, HRD4.out, HKW4.out, HLW4.out, HBOX4.out, fun i h1 h2 => by
                rcases Nat.lt_or_ge i k with h3 | h3
                · exact HNO.out i h1 h3
                · obtain rfl : i = k := by omega
                  rw [HS2.out]; exact HR2.out, rfl⟩
        · obtain rfl : k = 5 := by omega
          obtain ⟨r, hr⟩ : ∃ r, isTk L n 5 [63] = r := ⟨_, rfl⟩
          have htk := take_any HRD.out 5 [63]
          rw [hr] at htk
          have HTK := Lib.hid htk; have HR2 := Lib.hid hr
          clear htk hr
          go_wp2_with fail
          refine HTK.out.mono ?_
          rintro e w4 ⟨rfl, hrd4, hkp4, hlow4, hsz4⟩
          have hbox4 := ((hkp4.cell24 HRD.out.heap (o := 0) ⟨_, _, HBOX.out⟩).1.trans HBOX.out)
          have hkw4 := HKP.out.trans hkp4 (Nat.le_of_lt HWS.out)
          have hlw4 := HLOW.out.trans hlow4
          have HKW4 := Lib.hid hkw4; have HLW4 := Lib.hid hlw4; have HRD4 := Lib.hid hrd4
          have y0 : w4.cell? ⟨w.heap.size, 0, none⟩ = some (.int .i64 0) := cell_box hbox4 rfl rfl
          have y1 : w4.cell? ⟨w.heap.size, 1, none⟩ = some (.int .i64 0) := cell_box hbox4 rfl rfl
          have y2 : w4.cell? ⟨w.heap.size, 2, none⟩ = some (.slice none 0 0) := cell_box hbox4 rfl rfl
          have zz : ∀ j, w4.frozen? ⟨w.heap.size, j, none⟩ = false := fun j => by simp [World.frozen?, hbox4]
          have hBX := boxed hbox4 (.int .i64 5) (.int .i64 0) (.slice none 0 0)
          have hRX := HRD4.out.boxes hbox4 HH.out.le (.int .i64 5) (.int .i64 0) (.slice none 0 0)
          have hlx : Below n0 w4 (((w4.setCell ⟨w.heap.size, 0, none⟩ (.int .i64 5)).setCell ⟨w.heap.size, 1, none⟩ (.int .i64 0)).setCell ⟨w.heap.size, 2, none⟩ (.slice none 0 0)) := (((Below.refl n0 w4).setCell (p := ⟨w.heap.size, 0, none⟩) HH.out.le _).setCell (p := ⟨w.heap.size, 1, none⟩) HH.out.le _).setCell (p := ⟨w.heap.size, 2, none⟩) HH.out.le _
          have HBX := Lib.hid hBX; have HRX := Lib.hid hRX; have HLX := Lib.hid hlx
          clear hkw4 hlw4 hrd4 hbox4 hkp4 hlow4 hsz4 hBX hRX hlx
          go_wp2_with fail
          have hBX := HBX.out
          have hRX := HRX.out
          have hlx := HLX.out
          generalize ((w4.setCell ⟨w.heap.size, 0, none⟩ (.int .i64 5)).setCell ⟨w.heap.size, 1, none⟩ (.int .i64 0)).setCell ⟨w.heap.size, 2, none⟩ (.slice none 0 0) = w5 at hBX hRX hlx ⊢
          have hlh := leaf_last HNO.out
          rw [show Nt.sDyn = [63] from rfl, HR2.out] at hlh
          refine bodyPost_ret_by (v := .tuple #[.agg #[.int .i64 5, .int .i64 0, .slice none 0 0], .bool r]) ?_ rfl ?_
          · rw [results_cell_tmp (p := 2) (u := 3) (ty := 24) (by kernel_rfl)]
            simp [asAddr, Result.andThen, run_loadVar_row w5 _ 24 24 _ _ _ hBX.cells Tryz.underlying24 rfl (by kernel_rfl)]
          · unfold AtomPost atomR
            rw [HN.out, hlh, HS1.out]
            have hkf : KeepR rb w w5 := fun q h1 h2 h3 => by
              rw [hBX.rest q (by omega)]
              exact HKW4.out q h1 h2 h3
            cases r with
            | true => exact ⟨rfl, ⟨vv, by simpa using hRX⟩, hkf, HLW4.out.trans hlx⟩
            | false => exact ⟨rfl, ⟨vv, by simpa using hRX⟩, hkf, HLW4.out.trans hlx⟩
end Go.Proofs.YtideicoifinnoaaGreatDoor
