/- scheme.Subst: what a round of the loop over the binds keeps. A right type does not lie in an empty box. scheme.Subst, walked. scheme.Canon, walked. scheme.matched: what its rounds keep (plain facts). scheme.matched, walked. scheme.Match: the row that it builds. Under and Match as answers; the sample's facts. -/
import Derived.Test.YtncdbbjkafgphaaRpA
import Derived.Test.YtncdbbjkafgphaaScA
import Derived.Test.YtncdbbjkafgphaaUgL
import Derived.Test.YtncdbbjkafgphaaScP
import Derived.Test.YtncdbbjkafgphaaUgA
import Derived.Test.YtncdbbjkafgphaaTyS
import Derived.Test.YtncdbbjkafgphaaPbA
namespace Go.Proofs.Ytncdbbjkafgphaa
open Go Go.RowKit
open Tp (T Bd)
def sokL (t : T) (L : List Bd) : Bool := Tp.right t && L.all Tp.bdRight
def SuPost (t : T) (L : List Bd) (w : World) (e : Ending) (w' : World) : Prop := Below w.heap.size w w' ∧
  ((sokL t L = true ∧ ∃ a c, e = .returned (.tuple #[tv (Tp.sub L t) a c, .int .i64 0]) ∧ TyAt (LT w'.heap.size) w' (Tp.sub L t) a c) ∨ (sokL t L = false ∧ e = .returned (.tuple #[.agg #[.int .i64 0, .int .i64 0, .slice none 0 0], .int .i64 1])))
/-- k binds were looked at: all right, the first of each number in the map. -/
structure SuS (L : List Bd) (bx : Array Value) (w : World) (mb k : Nat) (M : TMap) (nm : Nat) (wr : World) : Prop where
  keep : Below w.heap.size w wr
  box : wr.heap[w.heap.size]? = some (.cells bx 24)
  res : wr.heap[w.heap.size + 1]? = some (.cells #[.int .i64 0, .int .i64 0, .slice none 0 0] 24)
  map : TMAt wr mb nm M
  nml : nm ≤ k
  low : w.heap.size + 2 ≤ mb
  good : ∀ b ∈ L.take k, Tp.bdRight b = true
  look : ∀ n, Tp.look (L.take k) n = (M n).map Ke.t
  ent : ∀ n e, M n = some e → TyAt (LT w.heap.size) wr e.t e.a e.cap
theorem take_more {α : Type} {L : List α} {k : Nat} (h : k < L.length) : L.take (k + 1) = L.take k ++ [L[k]] := by rw [List.take_succ_eq_append_getElem h]
theorem SuS.good' {L : List Bd} {bx : Array Value} {w wr : World} {mb k nm : Nat} {M : TMap} (h : SuS L bx w mb k M nm wr) (hk : k < L.length) (hb : Tp.bdRight L[k] = true) : ∀ b ∈ L.take (k + 1), Tp.bdRight b = true := fun b h' => by
  rw [take_more hk] at h'
  rcases List.mem_append.1 h' with h' | h'
  · exact h.good b h'
  · rw [List.mem_singleton.1 h']; exact hb
theorem SuS.below {L : List Bd} {bx : Array Value} {w wr V : World} {mb k nm : Nat} {M : TMap} (h : SuS L bx w mb k M nm wr) (hB : Below wr.heap.size wr V) : SuS L bx w mb k M nm V := by
  have hl := h.keep.size
  have hx := (Array.getElem?_eq_some_iff.1 h.box).1
  have hr := (Array.getElem?_eq_some_iff.1 h.res).1
  exact ⟨h.keep.trans (hB.mono hl), (hB.block _ hx).trans h.box, (hB.block _ hr).trans h.res, h.map.same (hB.block _ h.map.lt), h.nml, h.low, h.good, h.look, fun n e he => ty_same (fun z hz => hB.block z (Nat.lt_of_lt_of_le hz hl)) (fun _ h => h) (h.ent n e he)⟩
theorem SuS.next {L : List Bd} {bx : Array Value} {w wr : World} {mb k nm : Nat} {M : TMap} (h : SuS L bx w mb k M nm wr) (hk : k < L.length) (hb : Tp.bdRight L[k] = true) {x : Ke} (hM : M L[k].1 = some x) : SuS L bx w mb (k + 1) M nm wr := by
  refine ⟨h.keep, h.box, h.res, h.map, Nat.le_succ_of_le h.nml, h.low, h.good' hk hb, fun n => ?_, h.ent⟩
  rw [take_more hk, Tp.look_append, h.look n]
  simp only [Tp.look]
  split
  · next e => rw [← e, hM]; rfl
  · exact Option.or_none
theorem SuS.more {L : List Bd} {bx : Array Value} {w wr V' : World} {mb k nm : Nat} {M : TMap} (h : SuS L bx w mb k M nm wr) (hk : k < L.length) (hb : Tp.bdRight L[k] = true) (hM : M L[k].1 = none) {x : Ke} (hx : x.t = L[k].2) (hty : TyAt (LT w.heap.size) wr x.t x.a x.cap)
    (hput : TMAt V' mb (nm + 1) (tmPut M L[k].1 x)) (hg : wr.grownBy V' (some mb)) : SuS L bx w mb (k + 1) (tmPut M L[k].1 x) (nm + 1) V' := by
  have hl := h.keep.size
  have hlow := h.low
  have hbl := (Array.getElem?_eq_some_iff.1 h.box).1
  have hrl := (Array.getElem?_eq_some_iff.1 h.res).1
  have hB : ∀ z, z < w.heap.size → V'.heap[z]? = wr.heap[z]? := fun z hz => hg.block z (by omega) (fun e => by injection e with e; omega)
  refine ⟨⟨hg.os.trans h.keep.os, hg.tape.trans h.keep.tape, hg.output.trans h.keep.output, Nat.le_trans hl hg.size, fun z hz => (hB z hz).trans (h.keep.block z hz)⟩, (hg.block _ hbl (fun e => by injection e with e; omega)).trans h.box, (hg.block _ hrl (fun e => by injection e with e; omega)).trans h.res, hput, Nat.succ_le_succ h.nml, h.low, h.good' hk hb, fun n => ?_, fun n e he => ?_⟩
  · rw [take_more hk, Tp.look_append, h.look n]
    simp only [Tp.look, tmPut]
    by_cases e : L[k].1 = n
    · rw [if_pos e, if_pos e.symm, ← e, hM, ← hx]; rfl
    · rw [if_neg e, if_neg (fun h => e h.symm)]; exact Option.or_none
  · unfold tmPut at he
    split at he
    · injection he with he; subst he
      exact ty_same hB (fun _ h => h) hty
    · exact ty_same hB (fun _ h => h) (h.ent n e he)
theorem bad_bind {t : T} {L : List Bd} {k : Nat} (hk : k < L.length) (hb : Tp.bdRight L[k] = false) : sokL t L = false := by
  unfold sokL
  rw [Bool.and_eq_false_iff]
  right
  rw [List.all_eq_false]
  exact ⟨L[k], List.getElem_mem hk, by rw [hb]; simp⟩
end Go.Proofs.Ytncdbbjkafgphaa
namespace Go.Proofs.Ytncdbbjkafgphaa
open Go Go.RowKit
open Tp (T Bd)
theorem kind_ne (t : T) (ht : Tp.right t = true) : t.kind ≠ 0 := by
  intro h
  cases t with | mk k n l =>
  dsimp only [T.kind] at h
  subst h
  have h := (Tp.right_node ht).1
  rw [show Tp.arity 0 = -1 from rfl] at h
  omega
theorem off_ne {W : World} {r b o : Nat} {k : Int} {s : TypeId} (hr : W.heap[r]? = some (.cells #[.int .i64 0, .int .i64 0, .slice none 0 0] s)) (hk : k ≠ 0) (hc : W.cell? ⟨b, o, none⟩ = some (.int .i64 k)) : b ≠ r := by
  intro e
  subst e
  unfold World.cell? at hc
  rw [hr] at hc
  match o with
  | 0 => simp at hc; exact hk hc.symm
  | 1 => simp at hc; exact hk hc.symm
  | 2 => simp at hc
  | o + 3 => simp at hc
mutual
theorem node_off {G : Nat → Prop} {W : World} {r : Nat} {s : TypeId} (hr : W.heap[r]? = some (.cells #[.int .i64 0, .int .i64 0, .slice none 0 0] s)) : ∀ (t : T) (b o : Nat), Tp.right t = true → NodeAt G W t b o → NodeAt (fun z => G z ∧ z ≠ r) W t b o
  | .mk k n l, b, o, ht, h => by
    have hl := kids_right ht
    simp only [NodeAt] at h ⊢
    obtain ⟨h1, h2, h3, h4, a, cap, h5, h6, h7, h8⟩ := h
    exact ⟨h1, h2, h3, h4, a, cap, h5, h6, h7, kids_off hr l a hl h8⟩
theorem kids_off {G : Nat → Prop} {W : World} {r : Nat} {s : TypeId} (hr : W.heap[r]? = some (.cells #[.int .i64 0, .int .i64 0, .slice none 0 0] s)) : ∀ (l : List T) (a : Option Addr), Tp.rights l = true → KidsAt G W l a → KidsAt (fun z => G z ∧ z ≠ r) W l a
  | [], _, _, _ => by simp [KidsAt]
  | t :: rr, a, hl, h => by
    obtain ⟨g1, g2⟩ := Tp.rights_cons hl
    have hk := kind_ne t g1
    simp only [KidsAt] at h ⊢
    obtain ⟨b, o, h1, h2, h3, h4⟩ := h
    obtain ⟨_, _, _, c0, _⟩ := h3.ty
    exact ⟨b, o, h1, ⟨h2, off_ne hr hk c0⟩, node_off hr t b o g1 h3, kids_off hr rr _ g2 h4⟩
end
theorem ty_off {G : Nat → Prop} {W : World} {r : Nat} {s : TypeId} {t : T} {a : Option Addr} {c : Nat} (hr : W.heap[r]? = some (.cells #[.int .i64 0, .int .i64 0, .slice none 0 0] s)) (ht : Tp.right t = true) (h : TyAt G W t a c) : TyAt (fun z => G z ∧ z ≠ r) W t a c := ⟨h.1, h.2.1, h.2.2.1, h.2.2.2.1, kids_off hr _ _ (kids_right ht) h.2.2.2.2⟩
end Go.Proofs.Ytncdbbjkafgphaa
namespace Go.Proofs.Ytncdbbjkafgphaa
open Go Go.RowKit
open Tp (T Bd)
set_option maxRecDepth 100000 in
set_option maxHeartbeats 8000000 in
theorem subst_any (L : List Bd) (t : T) (k0 n0 : Int) (m0 : Nat) (a : Option Addr) (cap : Nat) (la : Option Addr) (lc : Nat) (w : World) (hv : TV t k0 n0 m0) (hty : TyAt (LT w.heap.size) w t a cap) (hL : BindsAt (LT w.heap.size) w L la) (hll : L.length ≤ 1000000) (hs : Tp.size t ≤ 1000000) (hls : ∀ b ∈ L, Tp.size b.2 ≤ 1000000) :
    Calls Try.prog 13 #[.agg #[.int .i64 k0, .int .i64 n0, .slice a m0 cap], .slice la L.length lc] w (SuPost t L w) := by
  have hmm := @run_makeMap Try.prog
  obtain ⟨W2, hW2⟩ : ∃ W, (w.alloc (.cells #[.int .i64 k0, .int .i64 n0, .slice a m0 cap] 24)).alloc (.cells #[.int .i64 0, .int .i64 0, .slice none 0 0] 24) = W := ⟨_, rfl⟩
  have hb2 : Below w.heap.size w W2 := by rw [← hW2]; exact ((Below.refl _ _).alloc (Nat.le_refl _) _).alloc (by simp) _
  have hs2 : W2.heap.size = w.heap.size + 2 := by rw [← hW2]; simp
  have hx0 : W2.heap[w.heap.size]? = some (.cells #[.int .i64 k0, .int .i64 n0, .slice a m0 cap] 24) := by rw [← hW2]; exact box1 _ _ _ _ _
  have hx1 : W2.heap[w.heap.size + 1]? = some (.cells #[.int .i64 0, .int .i64 0, .slice none 0 0] 24) := by rw [← hW2]; exact box2 _ _ _ _ _
  have hrt := sright_any hv (ty_same (fun z hz => hb2.block z hz) (fun _ h => Nat.lt_of_lt_of_le h hb2.size) hty) hs
  have hcell : ∀ V, Below W2.heap.size W2 V → (V.cell? ⟨w.heap.size, 0, none⟩ = some (.int .i64 k0) ∧ V.cell? ⟨w.heap.size, 1, none⟩ = some (.int .i64 n0) ∧ V.cell? ⟨w.heap.size, 2, none⟩ = some (.slice a m0 cap)) := fun V hV => by
    have h := (hV.block w.heap.size (by omega)).trans hx0
    exact ⟨cell_box h rfl rfl, cell_box h rfl rfl, cell_box h rfl rfl⟩
  have hres : ∀ V, Below W2.heap.size W2 V → V.heap[w.heap.size + 1]? = some (.cells #[.int .i64 0, .int .i64 0, .slice none 0 0] 24) := fun V hV => (hV.block _ (by omega)).trans hx1
  have HRES := Lib.hid hres
  clear hres
  have HW2 := Lib.hid hW2; have HB2 := Lib.hid hb2; have HS2 := Lib.hid hs2; have HX0 := Lib.hid hx0; have HX1 := Lib.hid hx1; have HRT := Lib.hid hrt; have HCELL := Lib.hid hcell; have HV := Lib.hid hv; have HTY := Lib.hid hty; have HL := Lib.hid hL; have HLL := Lib.hid hll; have HSZ := Lib.hid hs; have HLS := Lib.hid hls
  clear hW2 hb2 hs2 hx0 hx1 hrt hcell hv hty hL hll hs hls
  go_enter Try.func13, Try.ntmps13
  go_upto_region 1 with fail
  rw [HW2.out]
  obtain ⟨c0, c1, c2⟩ := HCELL.out W2 (Below.refl _ _)
  obtain ⟨z, hz⟩ : ∃ z, Tp.right t = z := ⟨_, rfl⟩
  have HR := Lib.hid hz
  rw [hz] at HRT
  clear hz
  cases z with
  | false =>
    go_upto_region 2 with (go_at_call 37; with_reducible refine HRT.out.mono ?_; clear c0 c1 c2; rintro e w3 ⟨rfl, hb⟩; have HB3 := Lib.hid hb; clear hb)
    have hr3 := HRES.out w3 HB3.out
    have r0 : w3.cell? ⟨w.heap.size + 1, 0, none⟩ = some (.int .i64 0) := cell_box hr3 rfl rfl
    have r1 : w3.cell? ⟨w.heap.size + 1, 1, none⟩ = some (.int .i64 0) := cell_box hr3 rfl rfl
    have r2 : w3.cell? ⟨w.heap.size + 1, 2, none⟩ = some (.slice none 0 0) := cell_box hr3 rfl rfl
    have f0 : w3.frozen? ⟨w.heap.size + 1, 0, none⟩ = false := IsC.frozen ⟨_, _, hr3⟩
    have f1 : w3.frozen? ⟨w.heap.size + 1, 1, none⟩ = false := IsC.frozen ⟨_, _, hr3⟩
    have f2 : w3.frozen? ⟨w.heap.size + 1, 2, none⟩ = false := IsC.frozen ⟨_, _, hr3⟩
    go_wp2_with fail
    refine bodyPost_ret (v := .tuple #[.agg #[.int .i64 0, .int .i64 0, .slice none 0 0], .int .i64 1]) (by simp [results, Try.f13, go_sem, r0, r1, r2]) rfl ?_
    refine ⟨?_, .inr ⟨by unfold sokL; rw [HR.out]; rfl, rfl⟩⟩
    exact (((HB2.out.trans (HB3.out.mono HB2.out.size)).setCell (Nat.le_succ _) _).setCell (Nat.le_succ _) _).setCell (Nat.le_succ _) _
  | true =>
    go_upto_region 3 with (go_at_call 37; with_reducible refine HRT.out.mono ?_; clear c0 c1 c2; rintro e w3 ⟨rfl, hb⟩; have HB3 := Lib.hid hb; clear hb)
    have hw3 : w.heap.size + 2 ≤ w3.heap.size := by have := HS2.out; have := HB3.out.size; omega
    have hst : SuS L #[.int .i64 k0, .int .i64 n0, .slice a m0 cap] w w3.heap.size 0 (fun _ => none) 0 (w3.alloc (.map #[] 0)) := by
      have hb3 : Below w.heap.size w w3 := HB2.out.trans (HB3.out.mono HB2.out.size)
      refine ⟨hb3.alloc hb3.size _, (Below.heap_alloc _ _ _ (by omega)).trans ((HB3.out.block _ (by have := HS2.out; omega)).trans HX0.out), (Below.heap_alloc _ _ _ (by omega)).trans (HRES.out _ HB3.out), tm_new w3, Nat.le_refl _, hw3, (fun b h => by simp at h), (fun n => by simp [Tp.look]), (fun n e h => by cases h)⟩
    have HST := Lib.hid hst
    clear hst
    go_upto_region 4 with fail
    obtain ⟨W4, hW4⟩ : ∃ W, w3.alloc (.map #[] 0) = W := ⟨_, rfl⟩
    rw [hW4] at HST ⊢
    clear hW4
    obtain ⟨mb, hmb⟩ : ∃ z, w3.heap.size = z := ⟨_, rfl⟩
    rw [hmb] at HST hw3 ⊢
    clear hmb
    obtain ⟨ll, hll⟩ : ∃ z, L.length = z := ⟨_, rfl⟩
    rw [hll] at HLL ⊢
    go_wp2_with fail
    go_loopg [18] ll (fun gk v18 wr => ∃ (k nm : Nat) (M : TMap), v18 = .int .i64 (k : Int) ∧ k ≤ ll ∧ SuS L #[.int .i64 k0, .int .i64 n0, .slice a m0 cap] w mb k M nm wr ∧ gk = ll - k)
    case atStart => exact ⟨0, 0, _, rfl, Nat.zero_le _, HST.out, rfl⟩
    case round =>
      obtain ⟨k, nm, M, rfl, hkm, hk, rfl⟩ := hrel
      have HK := Lib.hid hk
      clear hk HST
      by_cases hlt : k < ll
      · have hkl : k < L.length := by rw [hll]; exact hlt
        obtain ⟨b, o, xa, xc, hla, hbn, htx, q0, q1, q2, q3⟩ := HL.out.later HK.out.keep k hkl
        subst hla
        have hsx := HLS.out _ (List.getElem_mem hkl)
        obtain ⟨⟨bn, bt⟩, hbk⟩ : ∃ b, L[k] = b := ⟨_, rfl⟩
        obtain ⟨bk, bN, bm, hvb⟩ := TV.mk bt
        rw [hbk] at htx q0 q1 q2 q3 hsx
        dsimp only at htx q0 q1 q2 q3 hsx
        rw [hvb.1] at q1; rw [hvb.2.1] at q2; rw [hvb.2.2] at q3
        obtain ⟨i1, i2⟩ := pt_int hlt
        have HTX := Lib.hid htx; have HSX := Lib.hid hsx; have HBK := Lib.hid hbk; have HVB := Lib.hid hvb; have HKL := Lib.hid hkl
        clear htx hsx hbk hvb hbn
        go_upto_region 7 with fail
        obtain ⟨W5, hW5⟩ : ∃ W, wr.alloc (.cells #[.int .i64 bn, .int .i64 bk, .int .i64 bN, .slice xa bm xc] 44) = W := ⟨_, rfl⟩
        rw [hW5]
        have hb5 : Below wr.heap.size wr W5 := by rw [← hW5]; exact (Below.refl _ _).alloc (Nat.le_refl _) _
        have hx5 : W5.heap[wr.heap.size]? = some (.cells #[.int .i64 bn, .int .i64 bk, .int .i64 bN, .slice xa bm xc] 44) := by rw [← hW5]; exact World.alloc_heap_new _ _
        have hk5 := HK.out.below hb5
        have hs5 := hk5.keep.size
        have hrt5 := sright_any HVB.out (ty_same (fun z hz => hb5.block z (Nat.lt_of_lt_of_le hz HK.out.keep.size)) (fun _ h => Nat.lt_of_lt_of_le h hs5) HTX.out) HSX.out
        have hc5 : ∀ V, Below W5.heap.size W5 V → (V.cell? ⟨wr.heap.size, 0, none⟩ = some (.int .i64 bn) ∧ V.cell? ⟨wr.heap.size, 1, none⟩ = some (.int .i64 bk) ∧ V.cell? ⟨wr.heap.size, 2, none⟩ = some (.int .i64 bN) ∧ V.cell? ⟨wr.heap.size, 3, none⟩ = some (.slice xa bm xc)) := fun V hV => by
          have h := (hV.block wr.heap.size (Array.getElem?_eq_some_iff.1 hx5).1).trans hx5
          exact ⟨cell_box h rfl rfl, cell_box h rfl rfl, cell_box h rfl rfl, cell_box h rfl rfl⟩
        have HK5 := Lib.hid hk5; have HRT5 := Lib.hid hrt5; have HC5 := Lib.hid hc5; have HB5 := Lib.hid hb5; have HX5 := Lib.hid hx5
        clear hk5 hrt5 hc5 hb5 hx5 hs5 hW5 q0 q1 q2 q3 i1 i2
        obtain ⟨e0, e1, e2, e3⟩ := HC5.out W5 (Below.refl _ _)
        by_cases h0 : bn < 0
        · have g0 : decide (bn < 0) = true := by simp [h0]
          go_upto_region 8 with fail
          clear e0 e1 e2 e3
          have hr3 := (HK5.out).res
          have hkp3 := (HK5.out).keep
          have r0 := cell_box (i := 0) hr3 rfl rfl
          have r1 := cell_box (i := 1) hr3 rfl rfl
          have r2 := cell_box (i := 2) hr3 rfl rfl
          have f0 := IsC.frozen (o := 0) ⟨_, _, hr3⟩
          have f1 := IsC.frozen (o := 1) ⟨_, _, hr3⟩
          have f2 := IsC.frozen (o := 2) ⟨_, _, hr3⟩
          have HKP3 := Lib.hid hkp3
          clear hr3 hkp3
          go_wp2_with fail
          refine bodyPost_ret (v := .tuple #[.agg #[.int .i64 0, .int .i64 0, .slice none 0 0], .int .i64 1]) (by simp [results, Try.f13, go_sem, r0, r1, r2]) rfl ?_
          exact ⟨((HKP3.out.setCell (Nat.le_succ _) _).setCell (Nat.le_succ _) _).setCell (Nat.le_succ _) _, .inr ⟨bad_bind hkl (by rw [HBK.out]; unfold Tp.bdRight; dsimp only; rw [show decide (0 ≤ bn) = false from by simp; omega]; rfl), rfl⟩⟩
        · have g0 : decide (bn < 0) = false := by simp [h0]
          by_cases h1 : 1048576 < bn
          · have g1 : decide (1048576 < bn) = true := by simp [h1]
            go_upto_region 8 with fail
            clear e0 e1 e2 e3
            have hr3 := (HK5.out).res
            have hkp3 := (HK5.out).keep
            have r0 := cell_box (i := 0) hr3 rfl rfl
            have r1 := cell_box (i := 1) hr3 rfl rfl
            have r2 := cell_box (i := 2) hr3 rfl rfl
            have f0 := IsC.frozen (o := 0) ⟨_, _, hr3⟩
            have f1 := IsC.frozen (o := 1) ⟨_, _, hr3⟩
            have f2 := IsC.frozen (o := 2) ⟨_, _, hr3⟩
            have HKP3 := Lib.hid hkp3
            clear hr3 hkp3
            go_wp2_with fail
            refine bodyPost_ret (v := .tuple #[.agg #[.int .i64 0, .int .i64 0, .slice none 0 0], .int .i64 1]) (by simp [results, Try.f13, go_sem, r0, r1, r2]) rfl ?_
            exact ⟨((HKP3.out.setCell (Nat.le_succ _) _).setCell (Nat.le_succ _) _).setCell (Nat.le_succ _) _, .inr ⟨bad_bind hkl (by rw [HBK.out]; unfold Tp.bdRight; dsimp only; rw [show decide (bn ≤ 1048576) = false from by simp; omega]; simp), rfl⟩⟩
          · have g1 : decide (1048576 < bn) = false := by simp [h1]
            obtain ⟨z, hz⟩ : ∃ z, Tp.right bt = z := ⟨_, rfl⟩
            have HZ := Lib.hid hz
            rw [hz] at HRT5
            clear hz
            cases z with
            | false =>
              go_upto_region 8 with (go_at_call 37; with_reducible refine HRT5.out.mono ?_; clear e0 e1 e2 e3; rintro e w6 ⟨rfl, hb⟩; have HB6 := Lib.hid hb; clear hb)
              have hr3 := (HK5.out.below HB6.out).res
              have hkp3 := (HK5.out.below HB6.out).keep
              have r0 := cell_box (i := 0) hr3 rfl rfl
              have r1 := cell_box (i := 1) hr3 rfl rfl
              have r2 := cell_box (i := 2) hr3 rfl rfl
              have f0 := IsC.frozen (o := 0) ⟨_, _, hr3⟩
              have f1 := IsC.frozen (o := 1) ⟨_, _, hr3⟩
              have f2 := IsC.frozen (o := 2) ⟨_, _, hr3⟩
              have HKP3 := Lib.hid hkp3
              clear hr3 hkp3
              go_wp2_with fail
              refine bodyPost_ret (v := .tuple #[.agg #[.int .i64 0, .int .i64 0, .slice none 0 0], .int .i64 1]) (by simp [results, Try.f13, go_sem, r0, r1, r2]) rfl ?_
              exact ⟨((HKP3.out.setCell (Nat.le_succ _) _).setCell (Nat.le_succ _) _).setCell (Nat.le_succ _) _, .inr ⟨bad_bind hkl (by rw [HBK.out]; unfold Tp.bdRight; dsimp only; rw [HZ.out]; simp), rfl⟩⟩
            | true =>
              go_upto_region 9 with (go_at_call 37; with_reducible refine HRT5.out.mono ?_; clear e0 e1 e2 e3; rintro e w6 ⟨rfl, hb⟩; have HB6 := Lib.hid hb; clear hb)
              have hk6 := HK5.out.below HB6.out
              have hbi : I64 bn := by unfold I64; omega
              have hbr : Tp.bdRight (L[k]'hkl) = true := by rw [HBK.out]; unfold Tp.bdRight; dsimp only; rw [HZ.out, show decide (0 ≤ bn) = true from by simp; omega, show decide (bn ≤ 1048576) = true from by simp; omega]; rfl
              have hlk := tm_look (W := w6) hk6.map hbi true
              obtain ⟨e0, e1, e2, e3⟩ := HC5.out w6 HB6.out
              have HK6 := Lib.hid hk6; have HBI := Lib.hid hbi; have HBR := Lib.hid hbr
              clear hk6 hbi hbr h0 h1 g0 g1
              cases hMx : M bn with
              | some ie =>
                obtain ⟨it, ia, ic⟩ := ie
                obtain ⟨ik, iN, im, hvi⟩ := TV.mk it
                have htm : tmV M bn = .agg #[.int .i64 ik, .int .i64 iN, .slice ia im ic] := by unfold tmV; rw [hMx]; simp only [keV, hvi.1, hvi.2.1, hvi.2.2]
                rw [htm, hMx] at hlk
                have HMX := Lib.hid hMx
                clear htm hMx hvi
                go_wp2_with fail
                have hnx := (HK6.out.below ((Below.refl _ w6).alloc (Nat.le_refl _) (.cells #[.int .i64 ik, .int .i64 iN, .slice ia im ic] 24))).next hkl HBR.out (x := ⟨it, ia, ic⟩) (by rw [HBK.out]; exact HMX.out)
                go_roundg (ll - (k + 1))
                case measure => omega
                case rel => exact ⟨k + 1, nm, M, wrap_k4 (by have := HLL.out; omega), hlt, hnx, rfl⟩
              | none =>
                have htm : tmV M bn = .agg #[.int .i64 0, .int .i64 0, .slice none 0 0] := by unfold tmV; rw [hMx]
                rw [htm, hMx] at hlk
                have HMX := Lib.hid hMx
                clear htm hMx
                go_upto_region 11 with fail
                obtain ⟨W7, hW7⟩ : ∃ W, w6.alloc (.cells #[.int .i64 0, .int .i64 0, .slice none 0 0] 24) = W := ⟨_, rfl⟩
                rw [hW7]
                have hb7 : Below w6.heap.size w6 W7 := by rw [← hW7]; exact (Below.refl _ _).alloc (Nat.le_refl _) _
                have hk7 := HK6.out.below hb7
                clear e0 e1 e2 e3 hlk
                obtain ⟨e0, e1, e2, e3⟩ := HC5.out W7 (HB6.out.trans (hb7.mono HB6.out.size))
                obtain ⟨W8, hput, hm8, hg8⟩ := tm_put hk7.map HBI.out ⟨bt, xa, xc⟩ (by have := hk7.nml; have := HLL.out; omega)
                simp only [keV, HVB.out.1, HVB.out.2.1, HVB.out.2.2] at hput
                have hty7 : TyAt (LT w.heap.size) W7 bt xa xc := by
                  have h5 := (HK.out.below (HB5.out)).keep
                  exact ty_same (fun z hz => (hk7.keep.block z hz).trans (HK.out.keep.block z hz).symm) (fun _ h => h) HTX.out
                have hnx := hk7.more hkl HBR.out (by rw [HBK.out]; exact HMX.out) (x := ⟨bt, xa, xc⟩) (by rw [HBK.out]) hty7 (by rw [HBK.out]; exact hm8) hg8
                have HNX := Lib.hid hnx
                clear hnx hk7 hb7 hW7 hm8 hg8 hty7
                go_wp2_with fail
                go_roundg (ll - (k + 1))
                case measure => omega
                case rel => exact ⟨k + 1, nm + 1, _, wrap_k4 (by have := HLL.out; omega), hlt, HNX.out, rfl⟩
      · obtain rfl : k = ll := by omega
        have hgood : L.all Tp.bdRight = true := by
          rw [List.all_eq_true]
          have := HK.out.good
          rw [← hll, List.take_length] at this
          exact this
        have hlook : ∀ n, Tp.look L n = (M n).map Ke.t := by
          have := HK.out.look
          rw [← hll, List.take_length] at this
          exact this
        obtain ⟨c0, c1, c2⟩ : wr.cell? ⟨w.heap.size, 0, none⟩ = some (.int .i64 k0) ∧ wr.cell? ⟨w.heap.size, 1, none⟩ = some (.int .i64 n0) ∧ wr.cell? ⟨w.heap.size, 2, none⟩ = some (.slice a m0 cap) := ⟨cell_box HK.out.box rfl rfl, cell_box HK.out.box rfl rfl, cell_box HK.out.box rfl rfl⟩
        have hnl : w.heap.size ≤ wr.heap.size := HK.out.keep.size
        have hrep := replaced_any L M nm mb t k0 n0 m0 a cap wr HV.out HR.out (ty_same (fun z hz => HK.out.keep.block z hz) (fun _ h => Nat.lt_of_lt_of_le h hnl) HTY.out) HK.out.map hlook (fun n e he => ty_same (fun _ _ => rfl) (fun _ h => Nat.lt_of_lt_of_le h hnl) (HK.out.ent n e he)) HSZ.out
        have HREP := Lib.hid hrep; have HG := Lib.hid hgood
        clear hrep hgood hlook
        go_wp2_with (go_at_call 38; (with_reducible refine HREP.out.mono ?_); clear c0 c1 c2; rintro e w6 ⟨ra, rc, rfl, hty6, hb⟩; have HB6 := Lib.hid hb; have HTY6 := Lib.hid hty6; clear hb hty6; obtain ⟨y, hy⟩ : ∃ y, Tp.sub L t = y := ⟨_, rfl⟩; obtain ⟨yk, yn, ym, hvy⟩ := TV.mk y; rw [hy] at HTY6 ⊢; rw [tv_of hvy]; have HY := Lib.hid hy; have HVY := Lib.hid hvy; clear hy hvy; have hr3 := (HK.out.below HB6.out).res; have r0 := cell_box (i := 0) hr3 rfl rfl; have r1 := cell_box (i := 1) hr3 rfl rfl; have r2 := cell_box (i := 2) hr3 rfl rfl; have f0 := IsC.frozen (o := 0) ⟨_, _, hr3⟩; have f1 := IsC.frozen (o := 1) ⟨_, _, hr3⟩; have f2 := IsC.frozen (o := 2) ⟨_, _, hr3⟩; clear hr3)
        have hkp := (HK.out.below HB6.out).keep
        refine bodyPost_ret (v := .tuple #[.agg #[.int .i64 yk, .int .i64 yn, .slice ra ym rc], .int .i64 0]) (by simp [results, Try.f13, go_sem, r0, r1, r2]) rfl ?_
        refine ⟨((hkp.setCell (Nat.le_succ _) _).setCell (Nat.le_succ _) _).setCell (Nat.le_succ _) _, .inl ⟨by unfold sokL; rw [HR.out, HG.out]; rfl, ra, rc, by rw [HY.out, tv_of HVY.out], ?_⟩⟩
        rw [HY.out]
        have hry : Tp.right y = true := by
          rw [← HY.out]
          exact Tp.sub_right (fun b hb => by
            have h := List.all_eq_true.1 HG.out b hb
            unfold Tp.bdRight at h
            simp only [Bool.and_eq_true] at h
            exact h.2) t HR.out
        refine ty_same (fun z hz => ?_) (fun z hz => ?_) (ty_off (HK.out.below HB6.out).res hry HTY6.out)
        · exact set3_other hz.2
        · rw [size_setCell, size_setCell, size_setCell]; exact hz.1
end Go.Proofs.Ytncdbbjkafgphaa
namespace Go.Proofs.Ytncdbbjkafgphaa
open Go Go.RowKit
open Tp (T Bd)
theorem numb_snoc (v : Int) : ∀ (l : List Int) (i : Nat), Tp.numb (l ++ [v]) i = Tp.numb l i ++ [(v, .mk 6 ((i + l.length : Nat) : Int) [])]
  | [], i => by simp [Tp.numb]
  | u :: r, i => by
    simp only [List.cons_append, Tp.numb, numb_snoc v r (i + 1), List.length_cons]
    rw [show i + 1 + r.length = i + (r.length + 1) from by omega]
theorem numb_mem : ∀ (l : List Int) (i : Nat) (b : Bd), b ∈ Tp.numb l i → b.1 ∈ l ∧ ∃ j : Nat, i ≤ j ∧ j < i + l.length ∧ b.2 = .mk 6 (j : Int) []
  | [], i, b, h => by simp [Tp.numb] at h
  | u :: r, i, b, h => by
    simp only [Tp.numb, List.mem_cons] at h
    rcases h with rfl | h
    · exact ⟨by simp, i, Nat.le_refl _, by simp, rfl⟩
    · obtain ⟨h1, j, h2, h3, h4⟩ := numb_mem r (i + 1) b h
      exact ⟨by simp [h1], j, by omega, by simp only [List.length_cons]; omega, h4⟩
mutual
theorem occ_range : ∀ (t : T) (n : Int), Tp.right t = true → Tp.occ n t = true → 0 ≤ n ∧ n ≤ 1048576
  | .mk k m l, n, ht, h => by
    have hn := Tp.right_node ht
    simp only [Tp.occ, Bool.or_eq_true, Bool.and_eq_true, decide_eq_true_eq] at h
    rcases h with ⟨_, rfl⟩ | h
    · exact ⟨hn.2.2.1, hn.2.2.2.1⟩
    · exact occs_range l n hn.2.1 h
theorem occs_range : ∀ (l : List T) (n : Int), Tp.rights l = true → Tp.occs n l = true → 0 ≤ n ∧ n ≤ 1048576
  | [], n, _, h => by simp [Tp.occs] at h
  | t :: r, n, hl, h => by
    obtain ⟨g1, g2⟩ := Tp.rights_cons hl
    simp only [Tp.occs, Bool.or_eq_true] at h
    rcases h with h | h
    · exact occ_range t n g1 h
    · exact occs_range r n g2 h
end
set_option maxRecDepth 100000 in
theorem append_bd {w : World} {ops : Array Oper} {rest : List Oper} {o : Oper} {act : Act} {Q : Exit → Act → World → Prop} (hgd : o.guard = none) (s x : Operand)
    (ho : o.op = .call { callee := .builtin .append, args := #[s, x], argTypes := #[25, 25] })
    (base : Nat) (v : Value) (k : Nat) (bs : List BKe) (hs : act.eval s = v) (hown : w.ownsRow base 44 4 v k (bRow bs)) (e : BKe) (hb : Nat) (hx : act.eval x = .slice (some ⟨hb, 0, none⟩) 1 1) (hc : w.heap[hb]? = some (.cells (bkCells e).toArray 44))
    (hlen : k ≤ 1000000) (hbase : base ≤ w.heap.size)
    (h : ∀ g cap w', w'.ownsRow base 44 4 (.slice (some ⟨g, 0, none⟩) (k + 1) cap) (k + 1) (bRow bs ++ bkCells e) → w.grownBy w' v.ownBlock → (v.ownBlock = some g ∨ g = w.heap.size) → wpList Try.prog ops Q rest (act.put o.dst (.slice (some ⟨g, 0, none⟩) (k + 1) cap)) w') : wpList Try.prog ops Q (o :: rest) act w := by
  obtain ⟨i0, hi, hz0, hz1, hz2⟩ := info_parts info_bd
  obtain ⟨b1, b2⟩ := b48s (r := k) (by omega)
  refine wpList_plain hgd fun K hK => ?_
  refine wp_append_lies w s x 25 ho base 44 i0 (.agg #[.int .i64 0, .int .i64 0, .int .i64 0, .slice none 0 0]) 4 48 Try.underlying25 hi hz0 hz1 hz2 rfl (by decide) v k (bRow bs) hs hown ⟨hb, 0, none⟩ 1 1 (bkCells e) hx rfl ?_ (four_one _ _ _ _ _ _) (by decide) b2 b1 hbase w.heap.size rfl fun g cap w' h1 h2 h3 _ => hK _ _ (h g cap w' h1 h2 h3)
  exact World.news_of_block hc
theorem numb_sok {t : T} (ht : Tp.right t = true) (hl : (Tp.vars t []).length ≤ 1048576) : (Tp.numb (Tp.vars t []) 0).all Tp.bdRight = true := by
  rw [List.all_eq_true]
  intro b hb
  obtain ⟨h1, j, h2, h3, h4⟩ := numb_mem _ _ _ hb
  rw [Tp.mem_vars] at h1
  obtain ⟨r1, r2⟩ := occ_range t b.1 ht (h1.resolve_left (by simp))
  have hr : Tp.right b.2 = true := by
    rw [h4]
    simp [Tp.right, Tp.rights, Tp.nodeRight, Tp.arity]
    omega
  unfold Tp.bdRight
  rw [hr]
  simp [r1, r2]
def CanPost (t : T) (w : World) (e : Ending) (w' : World) : Prop := Below w.heap.size w w' ∧
  ((Tp.right t = true ∧ ∃ a c, e = .returned (.tuple #[tv (Tp.canon t) a c, .int .i64 0]) ∧ TyAt (LT w'.heap.size) w' (Tp.canon t) a c) ∨ (Tp.right t = false ∧ e = .returned (.tuple #[.agg #[.int .i64 0, .int .i64 0, .slice none 0 0], .int .i64 1])))
set_option maxRecDepth 100000 in
set_option maxHeartbeats 8000000 in
theorem canon_any (t : T) (k0 n0 : Int) (m0 : Nat) (a : Option Addr) (cap : Nat) (w : World) (hv : TV t k0 n0 m0) (hty : TyAt (LT w.heap.size) w t a cap) (hs : Tp.size t ≤ 1000000) :
    Calls Try.prog 14 #[.agg #[.int .i64 k0, .int .i64 n0, .slice a m0 cap]] w (CanPost t w) := by
  obtain ⟨W2, hW2⟩ : ∃ W, (w.alloc (.cells #[.int .i64 k0, .int .i64 n0, .slice a m0 cap] 24)).alloc (.cells #[.int .i64 0, .int .i64 0, .slice none 0 0] 24) = W := ⟨_, rfl⟩
  have hb2 : Below w.heap.size w W2 := by rw [← hW2]; exact ((Below.refl _ _).alloc (Nat.le_refl _) _).alloc (by simp) _
  have hs2 : W2.heap.size = w.heap.size + 2 := by rw [← hW2]; simp
  have hx0 : W2.heap[w.heap.size]? = some (.cells #[.int .i64 k0, .int .i64 n0, .slice a m0 cap] 24) := by rw [← hW2]; exact box1 _ _ _ _ _
  have hx1 : W2.heap[w.heap.size + 1]? = some (.cells #[.int .i64 0, .int .i64 0, .slice none 0 0] 24) := by rw [← hW2]; exact box2 _ _ _ _ _
  have hres : ∀ V, Below W2.heap.size W2 V → V.heap[w.heap.size + 1]? = some (.cells #[.int .i64 0, .int .i64 0, .slice none 0 0] 24) := fun V hV => (hV.block _ (by omega)).trans hx1
  have hty2 := ty_same (fun z hz => hb2.block z hz) (fun _ h => Nat.lt_of_lt_of_le h hb2.size) hty
  have hvs := vars_any t a cap W2 hs hty2
  rw [tv_of hv] at hvs
  have hcell : ∀ V, Below W2.heap.size W2 V → (V.cell? ⟨w.heap.size, 0, none⟩ = some (.int .i64 k0) ∧ V.cell? ⟨w.heap.size, 1, none⟩ = some (.int .i64 n0) ∧ V.cell? ⟨w.heap.size, 2, none⟩ = some (.slice a m0 cap)) := fun V hV => by
    have h := (hV.block w.heap.size (by omega)).trans hx0
    exact ⟨cell_box h rfl rfl, cell_box h rfl rfl, cell_box h rfl rfl⟩
  have hvl : (Tp.vars t []).length ≤ 1000000 := by have := Tp.vlenC t []; simp only [List.length_nil] at this; omega
  obtain ⟨vs, hvs'⟩ : ∃ z, Tp.vars t [] = z := ⟨_, rfl⟩
  rw [hvs'] at hvs hvl
  obtain ⟨m, hm⟩ : ∃ z, vs.length = z := ⟨_, rfl⟩
  rw [hm] at hvl
  have HRES := Lib.hid hres; have HW2 := Lib.hid hW2; have HB2 := Lib.hid hb2; have HS2 := Lib.hid hs2; have HVS := Lib.hid hvs; have HVE := Lib.hid hvs'; have HCELL := Lib.hid hcell; have HV := Lib.hid hv; have HTY := Lib.hid hty2; have HSZ := Lib.hid hs; have HVL := Lib.hid hvl; have HM := Lib.hid hm
  clear hres hW2 hb2 hs2 hx0 hx1 hvs hvs' hcell hv hty hs hvl hm hty2
  go_enter Try.func14, Try.ntmps14
  go_upto_region 1 with fail
  rw [HW2.out]
  obtain ⟨c0, c1, c2⟩ := HCELL.out W2 (Below.refl _ _)
  go_wp2_with (go_at_call 39; (with_reducible refine HVS.out.mono ?_); clear c0 c1 c2; rintro e w2 ⟨v, rfl, hown, hb2⟩; obtain ⟨va, vc, rfl⟩ := own_shapeT hown; rw [HM.out] at hown ⊢; have HVO := Lib.hid hown; have HB12 := Lib.hid hb2; clear hown hb2)
  go_loopg [4, 10] m (fun gk v i wr => ∃ (k : Nat) (bs : List BKe), k ≤ m ∧ i = .int .i64 (k : Int) ∧ bs.map (fun e => ((e.n, e.t) : Bd)) = Tp.numb (vs.take k) 0 ∧ RowBd w2.heap.size wr v bs ∧ Below w2.heap.size w2 wr ∧ gk = m - k)
  case atStart => exact ⟨0, [], Nat.zero_le _, rfl, rfl, ⟨World.ownsRow_nil _ _ _ _, fun _ h => by cases h⟩, Below.refl _ _, rfl⟩
  case round =>
    obtain ⟨k, bs, hkm, rfl, hbs, hrow, hb, rfl⟩ := hrel
    obtain ⟨ra, rc, rfl⟩ := own_shapeT hrow.own
    have hbl : bs.length = k := by have := congrArg List.length hbs; rw [Tp.numb_len, List.length_map, List.length_take, HM.out] at this; omega
    rw [hbl] at hrow ⊢
    have HBS := Lib.hid hbs; have HROW := Lib.hid hrow; have HB := Lib.hid hb; have HBL := Lib.hid hbl
    clear hbs hrow hb hbl
    by_cases hlt : k < m
    · have hkv : k < vs.length := by rw [HM.out]; exact hlt
      have hva : ∃ vb, va = some ⟨vb, 0, none⟩ ∧ vb < w2.heap.size ∧ wr.cell? ⟨vb, k, none⟩ = some (.int .i64 vs[k]) := by
        rcases HVO.out.2 with ⟨_, h2⟩ | ⟨g, cp, cur, h1, _⟩
        · omega
        · injection h1 with h1 _ _
          subst h1
          have hg := (HVO.out.lt g rfl).2
          refine ⟨g, rfl, hg, ?_⟩
          have h3 := HVO.out.cells (g := g) rfl k (.int .i64 vs[k]) (by rw [List.getElem?_map, List.getElem?_eq_getElem hkv]; rfl)
          rw [add_flat, Nat.zero_add] at h3
          exact (HB.out.cell (p := ⟨g, k, none⟩) hg).trans h3
      obtain ⟨vb, rfl, hvb, v0⟩ := hva
      obtain ⟨vk, hvk⟩ : ∃ z, vs[k] = z := ⟨_, rfl⟩
      rw [hvk] at v0
      have htk : vs.take (k + 1) = vs.take k ++ [vk] := by rw [take_more hkv, hvk]
      have hx := HROW.out
      have HX := Lib.hid hx.own; have HTK := Lib.hid htk; have HVB := Lib.hid hvb
      have HNX := Lib.hid (show w2.heap.size ≤ wr.heap.size from HB.out.size)
      have hk0 : (0 : Int) ≤ (k : Int) := Int.natCast_nonneg k
      have hk1 : (k : Int) < (m : Int) := by omega
      rw [HBL.out] at HX
      clear hx htk hvk hvb
      go_wp2_with (at_builtin; refine append_bd rfl _ _ rfl w2.heap.size (.slice ra k rc) k bs rfl (HX.out.alloc _) ⟨vk, .mk 6 (k : Int) [], none, 0⟩ wr.heap.size rfl (World.alloc_heap_new wr _) (Nat.le_trans (Nat.le_of_lt hlt) HVL.out) (Nat.le_trans HNX.out (by simp)) ?_; intro g1 cap1 w7 own1 gr1 ly1; have OWN1 := Lib.hid own1; have GR1 := Lib.hid gr1; have LY1 := Lib.hid ly1; clear own1 gr1 ly1)
      have own1 := OWN1.out; have gr1' := GR1.out; have ly1 := LY1.out
      rw [World.size_alloc] at ly1
      have hbe := below_push3 (n := w2.heap.size) HB.out gr1' (fun z hz => (HX.out.lt z hz).1) HNX.out
      have hnx := HROW.out.push HBL.out (w1 := wr) (w2 := w7) (g2 := g1) (cap2 := cap1) (e := ⟨vk, .mk 6 (k : Int) [], none, 0⟩) (fun _ _ _ => rfl) (Nat.le_refl _) HB.out.size ⟨by show I64 6; exact i64_nat (by decide) (by decide), by show I64 (k : Int); unfold I64; have := HVL.out; omega, Nat.le_refl _, Nat.zero_le _, trivial⟩ own1 gr1' ly1
      have HNXT := Lib.hid hnx; have HBE := Lib.hid hbe
      clear gr1' ly1 own1 hbe hnx v0 hk0 hk1
      go_roundg (m - (k + 1))
      case measure => omega
      case rel => exact ⟨k + 1, _, by omega, wrap_k4 (by have := HVL.out; omega), by rw [List.map_append, HBS.out, HTK.out, numb_snoc, List.length_take, HM.out, Nat.zero_add, Nat.min_eq_left (Nat.le_of_lt hlt)]; rfl, HNXT.out, HBE.out, rfl⟩
    · obtain rfl : k = m := by omega
      have htk : vs.take k = Tp.vars t [] := by rw [← HM.out, List.take_length]; exact HVE.out.symm
      have hL := HBS.out
      rw [htk] at hL
      have hba := HROW.out.binds.2.2.2
      rw [hL] at hba
      have hlen : (Tp.numb (Tp.vars t []) 0).length = k := by rw [Tp.numb_len, HVE.out]; exact HM.out
      have hb26 : Below W2.heap.size W2 wr := HB12.out.trans (HB.out.mono HB12.out.size)
      have hsu := subst_any (Tp.numb (Tp.vars t []) 0) t k0 n0 m0 a cap ra rc wr HV.out (ty_same (fun z hz => hb26.block z hz) (fun _ h => Nat.lt_of_lt_of_le h hb26.size) HTY.out) hba (by rw [hlen]; exact HVL.out) HSZ.out (fun b hb => by
        obtain ⟨_, j, _, _, h4⟩ := numb_mem _ _ _ hb
        rw [h4]; simp [Tp.size, Tp.sizes])
      rw [hlen] at hsu
      have HSU := Lib.hid hsu; have HB26 := Lib.hid hb26
      obtain ⟨c0, c1, c2⟩ := HCELL.out wr hb26
      have hvl2 : (Tp.vars t []).length ≤ 1048576 := by rw [HVE.out]; have := HVL.out; have := HM.out; omega
      have HVL2 := Lib.hid hvl2
      have hnl : w.heap.size ≤ W2.heap.size := HB2.out.size
      clear htk hL hba hlen hsu hb26 hvl2
      obtain ⟨z, hz⟩ : ∃ z, Tp.right t = z := ⟨_, rfl⟩
      have HZ := Lib.hid hz
      clear hz
      cases z with
      | true =>
        go_wp2_with (go_at_call 13; (with_reducible refine HSU.out.mono ?_); clear c0 c1 c2; rintro e w6 ⟨hb, hcase⟩; obtain ⟨_, xa, xc, rfl, hty6⟩ := hcase.resolve_right (fun h => by have h1 := h.1; unfold sokL at h1; rw [HZ.out, numb_sok HZ.out HVL2.out] at h1; cases h1); obtain ⟨y, hy⟩ : ∃ y, Tp.sub (Tp.numb (Tp.vars t []) 0) t = y := ⟨_, rfl⟩; obtain ⟨yk, yn, ym, hvy⟩ := TV.mk y; rw [hy] at hty6 ⊢; rw [tv_of hvy]; have HB6 := Lib.hid hb; have HTY6 := Lib.hid hty6; have HY := Lib.hid hy; have HVY := Lib.hid hvy; clear hb hcase hty6 hy hvy; have hr3 := HRES.out w6 (HB26.out.trans (HB6.out.mono HB26.out.size)); have r0 := cell_box (i := 0) hr3 rfl rfl; have r1 := cell_box (i := 1) hr3 rfl rfl; have r2 := cell_box (i := 2) hr3 rfl rfl; have f0 := IsC.frozen (o := 0) ⟨_, _, hr3⟩; have f1 := IsC.frozen (o := 1) ⟨_, _, hr3⟩; have f2 := IsC.frozen (o := 2) ⟨_, _, hr3⟩; clear hr3)
        have hry : Tp.right y = true := by rw [← HY.out]; exact Tp.canon_right HZ.out HSZ.out
        have hkp := HB26.out.trans (HB6.out.mono HB26.out.size)
        refine bodyPost_ret (v := .tuple #[.agg #[.int .i64 yk, .int .i64 yn, .slice xa ym xc], .int .i64 0]) (by simp [results, Try.f14, go_sem, r0, r1, r2]) rfl ?_
        refine ⟨(((HB2.out.trans (hkp.mono hnl)).setCell (Nat.le_succ _) _).setCell (Nat.le_succ _) _).setCell (Nat.le_succ _) _, .inl ⟨HZ.out, xa, xc, by rw [show Tp.canon t = y from HY.out, tv_of HVY.out], ?_⟩⟩
        rw [show Tp.canon t = y from HY.out]
        refine ty_same (fun z hz => ?_) (fun z hz => ?_) (ty_off (HRES.out w6 hkp) hry HTY6.out)
        · exact set3_other hz.2
        · rw [size_setCell, size_setCell, size_setCell]; exact hz.1
      | false =>
        go_wp2_with (go_at_call 13; (with_reducible refine HSU.out.mono ?_); clear c0 c1 c2; rintro e w6 ⟨hb, hcase⟩; obtain ⟨_, rfl⟩ := hcase.resolve_left (fun h => by have h1 := h.1; unfold sokL at h1; rw [HZ.out] at h1; cases h1); have HB6 := Lib.hid hb; clear hb hcase; have hr3 := HRES.out w6 (HB26.out.trans (HB6.out.mono HB26.out.size)); have r0 := cell_box (i := 0) hr3 rfl rfl; have r1 := cell_box (i := 1) hr3 rfl rfl; have r2 := cell_box (i := 2) hr3 rfl rfl; have f0 := IsC.frozen (o := 0) ⟨_, _, hr3⟩; have f1 := IsC.frozen (o := 1) ⟨_, _, hr3⟩; have f2 := IsC.frozen (o := 2) ⟨_, _, hr3⟩; clear hr3)
        have hkp := HB26.out.trans (HB6.out.mono HB26.out.size)
        refine bodyPost_ret (v := .tuple #[.agg #[.int .i64 0, .int .i64 0, .slice none 0 0], .int .i64 1]) (by simp [results, Try.f14, go_sem, r0, r1, r2]) rfl ?_
        exact ⟨(((HB2.out.trans (hkp.mono hnl)).setCell (Nat.le_succ _) _).setCell (Nat.le_succ _) _).setCell (Nat.le_succ _) _, .inr ⟨HZ.out, rfl⟩⟩
end Go.Proofs.Ytncdbbjkafgphaa
namespace Go.Proofs.Ytncdbbjkafgphaa
open Go Go.RowKit
open Tp (T Bd)
/-- A choice of types makes one type another one, and is static there. -/
def Sv (g : Int → T) (x y : T) : Prop := Tp.app g x = y ∧ ∀ n, Tp.occ n x = true → Tp.without 5 (g n) = true
theorem sv_var {g : Int → T} {n : Int} {l : List T} {y : T} (hr : Tp.right (.mk 6 n l) = true) : Sv g (.mk 6 n l) y ↔ g n = y ∧ Tp.without 5 (g n) = true := by
  obtain rfl := Tp.right_leaf hr
  unfold Sv
  rw [Tp.app_var]
  constructor
  · exact fun h => ⟨h.1, h.2 n (by simp [Tp.occ])⟩
  · refine fun h => ⟨h.1, fun m hm => ?_⟩
    simp [Tp.occ, Tp.occs] at hm
    rw [← hm]; exact h.2
theorem svs_iff {g : Int → T} : ∀ (l m : List T), l.length = m.length → ((Tp.apps g l = m ∧ ∀ n, Tp.occs n l = true → Tp.without 5 (g n) = true) ↔ ∀ p ∈ l.zip m, Sv g p.1 p.2)
  | [], [], _ => by simp [Tp.apps, Tp.occs]
  | [], _ :: _, h => by simp at h
  | _ :: _, [], h => by simp at h
  | t :: r, u :: s, h => by
    have ih := svs_iff (g := g) r s (by simpa using h)
    simp only [Tp.apps, List.cons.injEq, Tp.occs, Bool.or_eq_true, List.zip_cons_cons, List.forall_mem_cons, ← ih]
    unfold Sv
    constructor
    · rintro ⟨⟨h1, h2⟩, h3⟩
      exact ⟨⟨h1, fun n hn => h3 n (.inl hn)⟩, h2, fun n hn => h3 n (.inr hn)⟩
    · rintro ⟨⟨h1, h3⟩, h2, h4⟩
      exact ⟨⟨h1, h2⟩, fun n hn => hn.elim (h3 n) (h4 n)⟩
theorem sv_node {g : Int → T} {x y : T} (hx : Tp.right x = true) (hy : Tp.right y = true) (h6 : x.kind ≠ 6) (hk : x.kind = y.kind) : x.kids.length = y.kids.length ∧ (Sv g x y ↔ ∀ p ∈ Ug.kq x y, Sv g p.1 p.2) := by
  have hl := Tp.right_node (k := x.kind) (n := x.num) (l := x.kids) (by cases x; exact hx)
  have hm := Tp.right_node (k := y.kind) (n := y.num) (l := y.kids) (by cases y; exact hy)
  have hlen : x.kids.length = y.kids.length := by have h1 := hl.1; have h2 := hm.1; rw [hk] at h1; omega
  refine ⟨hlen, ?_⟩
  have h1 := svs_iff (g := g) x.kids y.kids hlen
  have h2 : (∀ p ∈ Ug.kq x y, Sv g p.1 p.2) ↔ ∀ p ∈ x.kids.zip y.kids, Sv g p.1 p.2 := by simp [Ug.kq]
  rw [h2, ← h1]
  have hn := hl.2.2.2.2 h6
  have hn' := hm.2.2.2.2 (by rw [← hk]; exact h6)
  unfold Sv
  cases x with | mk k n l =>
  cases y with | mk k' n' l' =>
  dsimp only [T.kind, T.num, T.kids] at hk hn hn' h6 ⊢
  subst hk hn hn'
  rw [Tp.app_node g _ _ h6]
  simp [Tp.occ, h6]
theorem sv_kind {g : Int → T} {x y : T} (h6 : x.kind ≠ 6) (hk : x.kind ≠ y.kind) : ¬ Sv g x y := by
  rintro ⟨h, _⟩
  cases x with | mk k n l =>
  dsimp only [T.kind] at h6 hk
  rw [Tp.app_node g _ _ h6] at h
  exact hk (by rw [← h])
theorem occ_kq {x y : T} (h6 : x.kind ≠ 6) (hl : x.kids.length = y.kids.length) {n : Int} (h : Tp.occ n x = true) : ∃ p ∈ Ug.kq x y, Tp.occ n p.1 = true := by
  cases x with | mk k m l =>
  simp only [T.kind] at h6
  simp [Tp.occ, h6] at h
  have key : ∀ (l m : List T), l.length = m.length → Tp.occs n l = true → ∃ p ∈ l.zip m, Tp.occ n p.1 = true := by
    intro l
    induction l with
    | nil => intro m _ h; simp [Tp.occs] at h
    | cons t r ih =>
      intro m hm h
      cases m with
      | nil => simp at hm
      | cons u s =>
        simp only [Tp.occs, Bool.or_eq_true] at h
        rcases h with h | h
        · exact ⟨(t, u), by simp, h⟩
        · obtain ⟨p, h1, h2⟩ := ih s (by simpa using hm) h
          exact ⟨p, by simp [h1], h2⟩
  obtain ⟨p, h1, h2⟩ := key l y.kids hl h
  exact ⟨p, by simp only [Ug.kq, List.mem_reverse]; exact h1, h2⟩
theorem rights_mem' : ∀ (l : List T), Tp.rights l = true → ∀ x ∈ l, Tp.right x = true
  | [], _, _, h => by cases h
  | t :: r, h, x, hx => by
    obtain ⟨h1, h2⟩ := Tp.rights_cons h
    rcases List.mem_cons.1 hx with rfl | hx
    · exact h1
    · exact rights_mem' r h2 x hx
/-- Between two rounds: M is known, R is left. -/
structure Mch (a b : T) (M : TMap) (R : List (T × T)) : Prop where
  rt : ∀ p ∈ R, Tp.right p.1 = true ∧ Tp.right p.2 = true
  fwd : ∀ g, Sv g a b → (∀ n e, M n = some e → g n = e.t) ∧ ∀ p ∈ R, Sv g p.1 p.2
  bwd : ∀ g, (∀ n e, M n = some e → g n = e.t) → (∀ p ∈ R, Sv g p.1 p.2) → Sv g a b
  st : ∀ n e, M n = some e → Tp.without 5 e.t = true ∧ Tp.right e.t = true
  cov : ∀ n, Tp.occ n a = true → (∃ e, M n = some e) ∨ ∃ p ∈ R, Tp.occ n p.1 = true
theorem Mch.start {a b : T} (ha : Tp.right a = true) (hb : Tp.right b = true) : Mch a b (fun _ => none) [(a, b)] :=
  ⟨fun p hp => by rw [List.mem_singleton.1 hp]; exact ⟨ha, hb⟩, fun g h => ⟨fun n e h => (by cases h), fun p hp => by rw [List.mem_singleton.1 hp]; exact h⟩, fun g _ h => h (a, b) (by simp), (fun n e h => by cases h), fun n h => .inr ⟨(a, b), by simp, h⟩⟩
theorem Mch.put {a b y : T} {n : Int} {l : List T} {M : TMap} {R : List (T × T)} (h : Mch a b M ((.mk 6 n l, y) :: R)) (hs : Tp.without 5 y = true) (hM : ∀ e, M n = some e → e.t = y) (e' : Ke) (he' : e'.t = y) : Mch a b (tmPut M n e') R := by
  have hr := h.rt _ List.mem_cons_self
  refine ⟨fun p hp => h.rt p (List.mem_cons_of_mem _ hp), fun g hg => ?_, fun g hg hR => ?_, fun m e he => ?_, fun m hm => ?_⟩
  · obtain ⟨h1, h2⟩ := h.fwd g hg
    have h3 := (sv_var hr.1).1 (h2 _ List.mem_cons_self)
    refine ⟨fun m e he => ?_, fun p hp => h2 p (List.mem_cons_of_mem _ hp)⟩
    unfold tmPut at he
    split at he
    · next e1 => injection he with he; subst he; rw [e1, he']; exact h3.1
    · exact h1 m e he
  · have h3 : g n = y := by rw [hg n e' (by simp [tmPut]), he']
    refine h.bwd g (fun m e he => ?_) (fun p hp => ?_)
    · by_cases e1 : m = n
      · subst e1; rw [h3, hM e he]
      · exact hg m e (by unfold tmPut; rw [if_neg e1]; exact he)
    · rcases List.mem_cons.1 hp with rfl | hp
      · exact (sv_var hr.1).2 ⟨h3, by rw [h3]; exact hs⟩
      · exact hR p hp
  · unfold tmPut at he
    split at he
    · injection he with he; subst he; rw [he']; exact ⟨hs, hr.2⟩
    · exact h.st m e he
  · by_cases e1 : m = n
    · exact .inl ⟨e', by simp [tmPut, e1]⟩
    · rcases h.cov m hm with ⟨e, he⟩ | ⟨p, hp, ho⟩
      · exact .inl ⟨e, by unfold tmPut; rw [if_neg e1]; exact he⟩
      · rcases List.mem_cons.1 hp with rfl | hp
        · obtain rfl := Tp.right_leaf hr.1
          simp [Tp.occ, Tp.occs] at ho
          exact absurd ho.symm e1
        · exact .inr ⟨p, hp, ho⟩
theorem Mch.kids {a b x y : T} {M : TMap} {R : List (T × T)} (h : Mch a b M ((x, y) :: R)) (h6 : x.kind ≠ 6) (hk : x.kind = y.kind) : x.kids.length = y.kids.length ∧ Mch a b M (Ug.kq x y ++ R) := by
  have hr := h.rt _ List.mem_cons_self
  dsimp only at hr
  have hl := (sv_node (g := fun _ => x) hr.1 hr.2 h6 hk).1
  have hn := fun g => (sv_node (g := g) hr.1 hr.2 h6 hk).2
  refine ⟨hl, fun p hp => ?_, fun g hg => ?_, fun g hg hR => ?_, h.st, fun n hn' => ?_⟩
  · rcases List.mem_append.1 hp with hp | hp
    · simp only [Ug.kq, List.mem_reverse] at hp
      have h1 := List.of_mem_zip (a := p.1) (b := p.2) hp
      have hx := (Tp.right_node (k := x.kind) (n := x.num) (l := x.kids) (by cases x; exact hr.1)).2.1
      have hy := (Tp.right_node (k := y.kind) (n := y.num) (l := y.kids) (by cases y; exact hr.2)).2.1
      exact ⟨rights_mem' _ hx _ h1.1, rights_mem' _ hy _ h1.2⟩
    · exact h.rt p (List.mem_cons_of_mem _ hp)
  · obtain ⟨h1, h2⟩ := h.fwd g hg
    refine ⟨h1, fun p hp => ?_⟩
    rcases List.mem_append.1 hp with hp | hp
    · exact (hn g).1 (h2 _ List.mem_cons_self) p hp
    · exact h2 p (List.mem_cons_of_mem _ hp)
  · refine h.bwd g hg (fun p hp => ?_)
    rcases List.mem_cons.1 hp with rfl | hp
    · exact (hn g).2 (fun q hq => hR q (List.mem_append_left _ hq))
    · exact hR p (List.mem_append_right _ hp)
  · rcases h.cov n hn' with h1 | ⟨p, hp, ho⟩
    · exact .inl h1
    · rcases List.mem_cons.1 hp with rfl | hp
      · obtain ⟨q, h1, h2⟩ := occ_kq h6 hl ho
        exact .inr ⟨q, List.mem_append_left _ h1, h2⟩
      · exact .inr ⟨p, List.mem_append_right _ hp, ho⟩
theorem Mch.no {a b x y : T} {M : TMap} {R : List (T × T)} (h : Mch a b M ((x, y) :: R)) (hx : ∀ g, (∀ n e, M n = some e → g n = e.t) → ¬ Sv g x y) (g : Int → T) : ¬ Sv g a b := fun hg => by
  obtain ⟨h1, h2⟩ := h.fwd g hg
  exact hx g h1 (h2 _ List.mem_cons_self)
theorem sv_other {g : Int → T} {n : Int} {l : List T} {y z : T} (hr : Tp.right (.mk 6 n l) = true) (hg : g n = z) (hz : z ≠ y) : ¬ Sv g (.mk 6 n l) y := fun h => hz (hg.symm.trans ((sv_var hr).1 h).1)
theorem sv_dyn {g : Int → T} {n : Int} {l : List T} {y : T} (hr : Tp.right (.mk 6 n l) = true) (hy : Tp.without 5 y = false) : ¬ Sv g (.mk 6 n l) y := fun h => by
  have h1 := (sv_var hr).1 h
  rw [h1.1, hy] at h1
  exact absurd h1.2 (by simp)
/-- What is found is what the page finds. -/
theorem mt_yes {a b : T} {M : TMap} (h : Mch a b M []) (ha : Tp.right a = true) (hb : Tp.right b = true) : Tp.mat a b [] = some ((Tp.vars a []).map fun n => (n, ((M n).map Ke.t).getD b)) := by
  have key : ∀ n, n ∈ Tp.vars a [] → ∃ e, M n = some e := fun n hn => by
    rcases h.cov n (((Tp.mem_vars a [] n).1 hn).resolve_left (by simp)) with h1 | ⟨p, hp, _⟩
    · exact h1
    · cases hp
  let B := (Tp.vars a []).map fun n => (n, ((M n).map Ke.t).getD b)
  have hlook : ∀ n, n ∈ Tp.vars a [] → Tp.look B n = some (((M n).map Ke.t).getD b) := by
    have : ∀ (l : List Int) n, n ∈ l → Tp.look (l.map fun n => (n, ((M n).map Ke.t).getD b)) n = some (((M n).map Ke.t).getD b) := by
      intro l
      induction l with
      | nil => intro n h; cases h
      | cons v r ih =>
        intro n hn
        simp only [List.map_cons, Tp.look]
        by_cases e : v = n
        · rw [if_pos e, e]
        · rw [if_neg e]; exact ih n ((List.mem_cons.1 hn).resolve_left (fun h => e h.symm))
    exact this _
  have hsv : Sv (fun n => ((M n).map Ke.t).getD b) a b := h.bwd _ (fun n e he => by simp [he]) (fun p hp => by cases hp)
  have hsub : Tp.sub B a = b := by
    rw [← Tp.app_sub (s := fun n => ((M n).map Ke.t).getD b) a (fun n hn => hlook n ((Tp.mem_vars a [] n).2 (.inr hn)))]
    exact hsv.1
  obtain ⟨L', h1, h2⟩ := Tp.mat_complete a b [] B ha hb hsub (fun n hn => ⟨_, hlook n ((Tp.mem_vars a [] n).2 (.inr hn)), hsv.2 n hn⟩) (fun n v hv => by simp [Tp.look] at hv)
  have h3 := (Tp.mat_sound a b [] L' ha hb h1).2.1
  have hk : L'.map Prod.fst = B.map Prod.fst := by
    rw [h3]
    show Tp.vars a [] = _
    simp only [B, List.map_map]
    exact (List.map_id _).symm
  rw [h1, Tp.binds_ext hk (by rw [h3]; exact Tp.vars_nodup a [] List.nodup_nil) h2]
theorem mt_no {a b : T} (h : ∀ g, ¬ Sv g a b) (ha : Tp.right a = true) (hb : Tp.right b = true) : Tp.mat a b [] = none := by
  cases hm : Tp.mat a b [] with
  | none => rfl
  | some L' =>
    obtain ⟨⟨M, h1, h2⟩, h3, h4⟩ := Tp.mat_sound a b [] L' ha hb hm
    rw [List.nil_append] at h1
    subst h1
    have hl : ∀ n, Tp.occ n a = true → ∃ v, Tp.look L' n = some v ∧ Tp.without 5 v = true := fun n hn => by
      cases hv : Tp.look L' n with
      | none => exact absurd ((Tp.mem_vars a [] n).2 (.inr hn)) (by have := Tp.look_none.1 hv; rw [h3] at this; exact this)
      | some v => exact ⟨v, rfl, (h2 _ (Tp.look_mem hv)).1⟩
    refine absurd (⟨?_, fun n hn => ?_⟩ : Sv (fun n => (Tp.look L' n).getD a) a b) (h _)
    · rw [Tp.app_sub (L := L') a (fun n hn => by obtain ⟨v, hv, _⟩ := hl n hn; rw [hv]; rfl)]
      exact h4
    · obtain ⟨v, hv, hs⟩ := hl n hn
      dsimp only
      rw [hv]; exact hs
end Go.Proofs.Ytncdbbjkafgphaa
namespace Go.Proofs.Ytncdbbjkafgphaa
open Go Go.RowKit
open Tp (T Bd)
/-- Between two rounds, but for the stack. -/
structure MtS (a b : T) (w : World) (mb : Nat) (M : TMap) (nm : Nat) (O : List (T × T)) (wr : World) : Prop where
  mch : Mch a b M O
  map : TMAt wr mb nm M
  ent : ∀ n e, M n = some e → TyAt (LT w.heap.size) wr e.t e.a e.cap
  keep : Below w.heap.size w wr
  low : w.heap.size ≤ mb
  nml : nm + Ug.csz O ≤ Tp.size a + Tp.size b
  esz : ∀ n e, M n = some e → Tp.size e.t ≤ Tp.size a + Tp.size b
theorem MtS.block {a b : T} {w : World} {mb nm : Nat} {M : TMap} {O : List (T × T)} {wr w' : World} (h : MtS a b w mb M nm O wr) (hk : Below wr.heap.size wr w') : MtS a b w mb M nm O w' :=
  ⟨h.mch, h.map.same (hk.block mb h.map.lt), fun n e he => ty_same (fun z hz => hk.block z (Nat.lt_of_lt_of_le hz h.keep.size)) (fun _ h => h) (h.ent n e he), h.keep.trans (hk.mono h.keep.size), h.low, h.nml, h.esz⟩
theorem MtS.stack {a b : T} {w : World} {mb nm g : Nat} {M : TMap} {O : List (T × T)} {wr w' : World} {A : Array Value} (h : MtS a b w mb M nm O wr) (hgA : wr.heap[g]? = some (.cells A 82)) (hge : w.heap.size ≤ g) (hk : Kp wr.heap.size (fun z => some g = some z) wr w') : MtS a b w mb M nm O w' := by
  have hs := h.keep.size
  refine ⟨h.mch, h.map.same (hk.block mb h.map.lt (fun e => ?_)), fun n e he => ty_same (fun z hz => hk.block z (Nat.lt_of_lt_of_le hz hs) (fun e => ?_)) (fun _ h => h) (h.ent n e he), h.keep.trans (hk.below hs (fun z e => ?_)), h.low, h.nml, h.esz⟩
  · injection e with e
    obtain ⟨o, ho, hno⟩ := h.map.block
    rw [← e, hgA] at ho; injection ho with ho; exact hno _ _ ho.symm
  · injection e with e
    have : z < w.heap.size := hz
    omega
  · injection e with e; omega
theorem MtS.next {a b : T} {w : World} {mb nm : Nat} {M : TMap} {O O' : List (T × T)} {wr : World} (h : MtS a b w mb M nm O wr) (hc : Mch a b M O') (hs : Ug.csz O' ≤ Ug.csz O) : MtS a b w mb M nm O' wr := ⟨hc, h.map, h.ent, h.keep, h.low, by have := h.nml; omega, h.esz⟩
theorem MtS.put {a b : T} {w : World} {mb nm : Nat} {M : TMap} {O O' : List (T × T)} {wr w' : World} {n : Int} {e' : Ke} (h : MtS a b w mb M nm O wr) (hc : Mch a b (tmPut M n e') O') (hs : Ug.csz O' < Ug.csz O) (hty : TyAt (LT w.heap.size) wr e'.t e'.a e'.cap) (hes : Tp.size e'.t ≤ Tp.size a + Tp.size b)
    (hput : TMAt w' mb (nm + 1) (tmPut M n e')) (hg : wr.grownBy w' (some mb)) : MtS a b w mb (tmPut M n e') (nm + 1) O' w' := by
  have hl := h.keep.size
  have hlow := h.low
  have hB : ∀ z, z < w.heap.size → w'.heap[z]? = wr.heap[z]? := fun z hz => hg.block z (by omega) (fun e => by injection e with e; omega)
  refine ⟨hc, hput, fun m e he => ?_, ⟨hg.os.trans h.keep.os, hg.tape.trans h.keep.tape, hg.output.trans h.keep.output, Nat.le_trans hl hg.size, fun z hz => (hB z hz).trans (h.keep.block z hz)⟩, h.low, by have := h.nml; omega, fun m e he => ?_⟩
  · unfold tmPut at he
    split at he
    · injection he with he; subst he
      exact ty_same hB (fun _ h => h) hty
    · exact ty_same hB (fun _ h => h) (h.ent m e he)
  · unfold tmPut at he
    split at he
    · injection he with he; subst he
      exact hes
    · exact h.esz m e he
theorem CmR.put {w : World} {R : List En3} {v7 : Value} {wr w' : World} {mb nm : Nat} {M : TMap} (h : CmR w.heap.size w R v7 wr) (hn : w.heap.size ≤ wr.heap.size) (hm : TMAt wr mb nm M) (hl : w.heap.size ≤ mb) (hg : wr.grownBy w' (some mb)) : CmR w.heap.size w R v7 w' := by
  refine ⟨fun e he => (h.each e he).same (fun z hz => hg.block z (by omega) (fun e => by injection e with e; omega)), own_same h.row (fun z hz => ?_)⟩
  obtain ⟨h1, A, h2⟩ := own_block h.row hz
  refine hg.block z h1 (fun e => ?_)
  injection e with e
  obtain ⟨o, ho, hno⟩ := hm.block
  rw [← e, h2] at ho; injection ho with ho; exact hno _ _ ho.symm
def MhPost (a b : T) (w : World) (e : Ending) (w' : World) : Prop := Below w.heap.size w w' ∧
  ((∃ M mb nm, e = .returned (.tuple #[.map (some mb), .bool true]) ∧ Mch a b M [] ∧ TMAt w' mb nm M ∧ (∀ n e, M n = some e → TyAt (LT w.heap.size) w' e.t e.a e.cap) ∧ w.heap.size ≤ mb) ∨ (e = .returned (.tuple #[.map none, .bool false]) ∧ ∀ g, ¬ Sv g a b))
set_option maxRecDepth 100000 in
set_option maxHeartbeats 8000000 in
theorem matched_any (a b : T) (ak an bk bn : Int) (am bm : Nat) (aa : Option Addr) (ac : Nat) (ba : Option Addr) (bc : Nat) (w : World) (hva : TV a ak an am) (hvb : TV b bk bn bm) (ha : Tp.right a = true) (hb : Tp.right b = true)
    (hta : TyAt (LT w.heap.size) w a aa ac) (htb : TyAt (LT w.heap.size) w b ba bc) (hsz : Tp.size a + Tp.size b ≤ 1000000) :
    Calls Try.prog 40 #[.agg #[.int .i64 ak, .int .i64 an, .slice aa am ac], .agg #[.int .i64 bk, .int .i64 bn, .slice ba bm bc]] w (MhPost a b w) := by
  have hmm := @run_makeMap Try.prog
  obtain ⟨W3, hW3⟩ : ∃ W, ((w.alloc (.cells #[.int .i64 ak, .int .i64 an, .slice aa am ac] 24)).alloc (.cells #[.int .i64 bk, .int .i64 bn, .slice ba bm bc] 24)).alloc (.map #[] 0) = W := ⟨_, rfl⟩
  obtain ⟨W4, hW4⟩ : ∃ W, W3.alloc (.cells #[.int .i64 ak, .int .i64 an, .slice aa am ac, .int .i64 bk, .int .i64 bn, .slice ba bm bc] 82) = W := ⟨_, rfl⟩
  have hs3 : W3.heap.size = w.heap.size + 3 := by rw [← hW3]; simp
  have hb3 : Below w.heap.size w W3 := by rw [← hW3]; exact (((Below.refl _ _).alloc (Nat.le_refl _) _).alloc (by simp) _).alloc (by simp; omega) _
  have hb34 : Below W3.heap.size W3 W4 := by rw [← hW4]; exact (Below.refl _ _).alloc (Nat.le_refl _) _
  have hx4 : W4.heap[w.heap.size + 3]? = some (.cells #[.int .i64 ak, .int .i64 an, .slice aa am ac, .int .i64 bk, .int .i64 bn, .slice ba bm bc] 82) := by
    rw [← hW4, ← hs3]; exact World.alloc_heap_new _ _
  have hb4 : Below w.heap.size w W4 := hb3.trans (hb34.mono (by omega))
  have hm4 : TMAt W4 (w.heap.size + 1 + 1) 0 (fun _ => none) := by
    have h1 := tm_new ((w.alloc (.cells #[.int .i64 ak, .int .i64 an, .slice aa am ac] 24)).alloc (.cells #[.int .i64 bk, .int .i64 bn, .slice ba bm bc] 24))
    rw [World.size_alloc, World.size_alloc, hW3] at h1
    exact h1.same (hb34.block _ (by omega))
  have hst : MtS a b w (w.heap.size + 1 + 1) (fun _ => none) 0 [(a, b)] W4 := ⟨Mch.start ha hb, hm4, (fun n e h => by cases h), hb4, by omega, by simp [Ug.csz], (fun n e h => by cases h)⟩
  have hr4 : CmR w.heap.size w [⟨a, aa, ac, b, ba, bc⟩] (.slice (some ⟨w.heap.size + 3, 0, none⟩) 1 1) W4 := by
    refine ⟨fun e he => ?_, ?_⟩
    · obtain rfl := List.mem_singleton.1 he
      exact En3.lie.same (w := w) ⟨hta, htb⟩ (fun z hz => hb4.block z hz)
    · have := own_mk (B := w.heap.size) (sz := 6) (n := 1) (cap := 1) hx4 (by omega) (Nat.le_refl _) (by unfold maxLen; omega) rfl
      simp only [st3Cells, en3Cells, List.reverse_singleton, List.flatMap_cons, List.flatMap_nil, hva.1, hva.2.1, hva.2.2, hvb.1, hvb.2.1, hvb.2.2]
      exact this
  have hxa : W3.heap[w.heap.size]? = some (.cells #[.int .i64 ak, .int .i64 an, .slice aa am ac] 24) := by
    rw [← hW3]; exact (Below.heap_alloc _ _ _ (by simp; omega)).trans (box1 _ _ _ _ _)
  have hxb : W3.heap[w.heap.size + 1]? = some (.cells #[.int .i64 bk, .int .i64 bn, .slice ba bm bc] 24) := by
    rw [← hW3]; exact (Below.heap_alloc _ _ _ (by simp)).trans (box2 _ _ _ _ _)
  have HXA := Lib.hid hxa; have HXB := Lib.hid hxb
  clear hxa hxb
  have HST := Lib.hid hst; have HR4 := Lib.hid hr4; have HW3 := Lib.hid hW3; have HW4 := Lib.hid hW4; have HSZ := Lib.hid hsz; have HS3 := Lib.hid hs3
  clear hst hr4 hW3 hW4 hsz hs3 hb3 hb34 hx4 hb4 hm4 ha hb hta htb hva hvb
  go_enter Try.func40, Try.ntmps40
  go_upto_region 2 with fail
  rw [HW3.out]
  have c0 := cell_box (i := 0) HXA.out rfl rfl
  have c1 := cell_box (i := 1) HXA.out rfl rfl
  have c2 := cell_box (i := 2) HXA.out rfl rfl
  have d0 := cell_box (i := 0) HXB.out rfl rfl
  have d1 := cell_box (i := 1) HXB.out rfl rfl
  have d2 := cell_box (i := 2) HXB.out rfl rfl
  go_upto_region 3 with fail
  rw [HS3.out, HW4.out]
  clear c0 c1 c2 d0 d1 d2
  obtain ⟨mb, hmb⟩ : ∃ z, w.heap.size + 1 + 1 = z := ⟨_, rfl⟩
  rw [hmb] at HST ⊢
  clear hmb
  go_loopg [7] (Ug.csz [(a, b)]) (fun gk v7 wr => ∃ (R : List En3) (M : TMap) (nm : Nat), MtS a b w mb M nm (R.map En3.key) wr ∧ CmR w.heap.size w R v7 wr ∧ gk = Ug.csz (R.map En3.key))
  case atStart => exact ⟨_, _, _, HST.out, HR4.out, rfl⟩
  case round =>
    obtain ⟨R, M, nm, hs, hr, rfl⟩ := hrel
    have HS := Lib.hid hs; have HRR := Lib.hid hr
    clear hs hr HST HR4
    cases R with
    | nil =>
      obtain ⟨av, cv, rfl⟩ := own_shapeT HRR.out.row
      go_wp2_with fail
      refine bodyPost_ret (v := .tuple #[.map (some mb), .bool true]) (by simp [results, Try.f40, go_sem]) rfl ?_
      exact ⟨HS.out.keep, .inl ⟨M, mb, nm, rfl, HS.out.mch, HS.out.map, HS.out.ent, HS.out.low⟩⟩
    | cons e R =>
      obtain ⟨g, cap3, rfl, hg1, hg2, hcp, hcm, hcl, hown⟩ := own_top6 (v := u7) HRR.out.row
      have hgood := HRR.out.each e (by simp)
      obtain ⟨x, xa, xcap, y, ya, ycap⟩ := e
      obtain ⟨hxty, hyty⟩ := id hgood
      obtain ⟨xk, xn, xm, hvx⟩ := TV.mk x
      obtain ⟨yk, yn, ym, hvy⟩ := TV.mk y
      obtain ⟨r, hr⟩ : ∃ z, R.length = z := ⟨_, rfl⟩
      have hx0 := hcl 0 _ rfl; rw [Nat.add_zero] at hx0; have hx1 := hcl 1 _ rfl; have hx2 := hcl 2 _ rfl; have hy0 := hcl 3 _ rfl; have hy1 := hcl 4 _ rfl; have hy2 := hcl 5 _ rfl
      dsimp only at hx0 hx1 hx2 hy0 hy1 hy2 hxty hyty
      rw [hvx.1] at hx0; rw [hvx.2.1] at hx1; rw [hvx.2.2] at hx2; rw [hvy.1] at hy0; rw [hvy.2.1] at hy1; rw [hvy.2.2] at hy2
      rw [hr] at hx0 hx1 hx2 hy0 hy1 hy2 hcp hown ⊢
      have hmch := HS.out.mch
      rw [List.map_cons] at hmch
      change Mch a b M ((x, y) :: R.map En3.key) at hmch
      have hpop := cp_pop g (r + 1) cap3 r (by omega) hcp
      have hwr : wrap64 (r : Int) = (r : Int) := by unfold wrap64; unfold maxLen at hcm; omega
      obtain ⟨i1, i2⟩ := pt_int (Nat.lt_succ_self r)
      have i3 : (r : Int) < (r : Int) + 1 := Int.lt_succ _
      have hrest : CmR w.heap.size w R (.slice (some ⟨g, 0, none⟩) r cap3) wr := ⟨fun e' he => HRR.out.each e' (List.mem_cons_of_mem _ he), by rw [hr]; exact hown⟩
      have hk2 : Below wr.heap.size wr (wr.alloc (.cells #[.int .i64 xk, .int .i64 xn, .slice xa xm xcap, .int .i64 yk, .int .i64 yn, .slice ya ym ycap] 82)) := (Below.refl _ _).alloc (Nat.le_refl _) _
      have hnw : w.heap.size ≤ wr.heap.size := HS.out.keep.size
      have hs2 := HS.out.block hk2
      have hr2 := hrest.block hnw (.of_below hk2)
      have hx2' : (wr.alloc (.cells #[.int .i64 xk, .int .i64 xn, .slice xa xm xcap, .int .i64 yk, .int .i64 yn, .slice ya ym ycap] 82)).heap[wr.heap.size]? = some (.cells #[.int .i64 xk, .int .i64 xn, .slice xa xm xcap, .int .i64 yk, .int .i64 yn, .slice ya ym ycap] 82) := World.alloc_heap_new _ _
      have hty2 : TyAt (LT w.heap.size) (wr.alloc (.cells #[.int .i64 xk, .int .i64 xn, .slice xa xm xcap, .int .i64 yk, .int .i64 yn, .slice ya ym ycap] 82)) x xa xcap ∧ TyAt (LT w.heap.size) (wr.alloc (.cells #[.int .i64 xk, .int .i64 xn, .slice xa xm xcap, .int .i64 yk, .int .i64 yn, .slice ya ym ycap] 82)) y ya ycap :=
        ⟨ty_same (fun z hz => hk2.block z (Nat.lt_of_lt_of_le hz hnw)) (fun _ h => h) hxty, ty_same (fun z hz => hk2.block z (Nat.lt_of_lt_of_le hz hnw)) (fun _ h => h) hyty⟩
      have HWR := Lib.hid hwr; have HMCH := Lib.hid hmch; have HR := Lib.hid hr; have HVX := Lib.hid hvx; have HVY := Lib.hid hvy; have HS2 := Lib.hid hs2; have HR2 := Lib.hid hr2; have HX2 := Lib.hid hx2'; have HTY := Lib.hid hty2
      clear hcl hgood hxty hyty hown hg1 hr hvx hvy hcm hmch hrest hs2 hr2 hx2' hty2 hwr hnw hk2 HRR
      go_upto_region 5 with fail
      rw [HWR.out]
      go_upto_region 7 with fail
      obtain ⟨cb, hcb⟩ : ∃ n, wr.heap.size = n := ⟨_, rfl⟩
      rw [hcb] at HX2 ⊢
      generalize wr.alloc (.cells #[.int .i64 xk, .int .i64 xn, .slice xa xm xcap, .int .i64 yk, .int .i64 yn, .slice ya ym ycap] 82) = W2 at HS2 HR2 HX2 HTY ⊢
      have c0 := cell_box (i := 0) HX2.out rfl rfl
      have c3 := cell_box (i := 3) HX2.out rfl rfl
      clear hx0 hx1 hx2 hy0 hy1 hy2 i1 i2 i3 hcb
      have hrx := HMCH.out.rt (x, y) (by simp)
      dsimp only at hrx
      have HRX := Lib.hid hrx
      clear hrx
      by_cases h6 : xk = 6
      · subst h6
        have hxe : ∃ l, x = .mk 6 xn l := ⟨x.kids, by have h1 := HVX.out.1; have h2 := HVX.out.2.1; cases x; dsimp only [T.kind, T.num] at h1 h2; subst h1 h2; rfl⟩
        obtain ⟨xl, rfl⟩ := hxe
        have hxi : I64 xn := by have := HTY.out.1.2.1; exact this
        have hlk := tm_look (W := W2) HS2.out.map hxi true
        have hysz : Tp.size y ≤ 1000000 := by
          have h1 := HS2.out.nml
          rw [List.map_cons, Ug.csz_cons] at h1
          have h2 : (En3.key ⟨.mk 6 xn xl, xa, xcap, y, ya, ycap⟩).2 = y := rfl
          rw [h2] at h1
          have := HSZ.out
          omega
        have c1 := cell_box (i := 1) HX2.out rfl rfl
        have c4 := cell_box (i := 4) HX2.out rfl rfl
        have c5 := cell_box (i := 5) HX2.out rfl rfl
        have hcb2 : ∀ V, Below W2.heap.size W2 V → V.heap[cb]? = some (.cells #[.int .i64 6, .int .i64 xn, .slice xa xm xcap, .int .i64 yk, .int .i64 yn, .slice ya ym ycap] 82) := fun V hV => (hV.block cb (Array.getElem?_eq_some_iff.1 HX2.out).1).trans HX2.out
        have HXI := Lib.hid hxi; have HYS := Lib.hid hysz; have HCB := Lib.hid hcb2
        clear hxi hysz hcb2
        go_upto_region 11 with fail
        cases hMx : M xn with
        | some ie =>
          obtain ⟨it, ia, ic⟩ := ie
          obtain ⟨ik, iN, im, hvi⟩ := TV.mk it
          have htm : tmV M xn = .agg #[.int .i64 ik, .int .i64 iN, .slice ia im ic] := by unfold tmV; rw [hMx]; simp only [keV, hvi.1, hvi.2.1, hvi.2.2]
          rw [htm, hMx] at hlk
          have HMX := Lib.hid hMx; have HVI := Lib.hid hvi
          clear htm hMx hvi
          go_upto_region 12 with fail
          obtain ⟨W5, hW5⟩ : ∃ W, W2.alloc (.cells #[.int .i64 ik, .int .i64 iN, .slice ia im ic] 24) = W := ⟨_, rfl⟩
          rw [hW5]
          have hb5 : Below W2.heap.size W2 W5 := by rw [← hW5]; exact (Below.refl _ _).alloc (Nat.le_refl _) _
          have hx5 : W5.heap[W2.heap.size]? = some (.cells #[.int .i64 ik, .int .i64 iN, .slice ia im ic] 24) := by rw [← hW5]; exact World.alloc_heap_new _ _
          have hk5 := HS2.out.block hb5
          have hs5 := hk5.keep.size
          have hsm := same_any it y ia ic ya ycap W5 (by have h1 := hk5.esz _ _ HMX.out; have := HSZ.out; dsimp only at h1; omega) (ty_same (fun _ _ => rfl) (fun _ h => Nat.lt_of_lt_of_le h hs5) (hk5.ent _ _ HMX.out)) (ty_same (fun z hz => hb5.block z (Nat.lt_of_lt_of_le hz HS2.out.keep.size)) (fun _ h => Nat.lt_of_lt_of_le h hs5) HTY.out.2)
          rw [tv_of HVI.out, tv_of HVY.out] at hsm
          clear c1 c4 c5
          have hcc := HCB.out W5 hb5
          have c1 := cell_box (i := 1) hcc rfl rfl
          have c3 := cell_box (i := 3) hcc rfl rfl
          have c4 := cell_box (i := 4) hcc rfl rfl
          have c5 := cell_box (i := 5) hcc rfl rfl
          have e0 := cell_box (i := 0) hx5 rfl rfl
          have e1 := cell_box (i := 1) hx5 rfl rfl
          have e2 := cell_box (i := 2) hx5 rfl rfl
          obtain ⟨z, hz⟩ : ∃ z, Tp.same it y = z := ⟨_, rfl⟩
          rw [hz] at hsm
          have HZ := Lib.hid hz; have HSM := Lib.hid hsm; have HB5 := Lib.hid hb5
          clear hz hsm hb5 hx5 hk5 hs5 hcc hW5 hlk
          cases z with
          | false =>
            go_upto_region 13 with (go_at_call 59; (with_reducible refine HSM.out.mono ?_); rintro e w6 ⟨rfl, hb⟩; have HB26 := Lib.hid (HB5.out.trans (hb.mono HB5.out.size)); clear hb)
            have HNO := Lib.hid (HMCH.out.no (fun g hg => sv_other HRX.out.1 (hg xn _ HMX.out) (fun h => by have h1 := HZ.out; rw [(Tp.same_iff _ _).2 h] at h1; cases h1)))
            clear c1 c3 c4 c5 e0 e1 e2
            go_wp2_with fail
            refine bodyPost_ret (v := .tuple #[.map none, .bool false]) (by simp [results, Try.f40, go_sem]) rfl ?_
            exact ⟨(HS2.out.block HB26.out).keep, .inr ⟨rfl, HNO.out⟩⟩
          | true =>
            have hit : it = y := (Tp.same_iff _ _).1 HZ.out
            have HYM := Lib.hid (show ∀ e, M xn = some e → e.t = y from fun e he => by have h1 := HMX.out; rw [he] at h1; injection h1 with h1; rw [h1]; exact hit)
            have HYW := Lib.hid (show Tp.without 5 y = true by rw [← hit]; exact (HS2.out.mch.st _ _ HMX.out).1)
            clear hit
            go_upto_region 14 with (go_at_call 59; (with_reducible refine HSM.out.mono ?_); rintro e w6 ⟨rfl, hb⟩; have HB26 := Lib.hid (HB5.out.trans (hb.mono HB5.out.size)); clear hb)
            clear e0 e1 e2
            have hk6 := HS2.out.block HB26.out
            clear c1 c3 c4 c5
            have hcc := HCB.out w6 HB26.out
            have c1 := cell_box (i := 1) hcc rfl rfl
            have c3 := cell_box (i := 3) hcc rfl rfl
            have c4 := cell_box (i := 4) hcc rfl rfl
            have c5 := cell_box (i := 5) hcc rfl rfl
            have hr6 := HR2.out.block HS2.out.keep.size (.of_below HB26.out)
            obtain ⟨W8, hput, hm8, hg8⟩ := tm_put hk6.map HXI.out ⟨y, ya, ycap⟩ (by have := hk6.nml; have := HSZ.out; omega)
            simp only [keV, HVY.out.1, HVY.out.2.1, HVY.out.2.2] at hput
            have hty6 : TyAt (LT w.heap.size) w6 y ya ycap := ty_same (fun z hz => HB26.out.block z (Nat.lt_of_lt_of_le hz HS2.out.keep.size)) (fun _ h => h) HTY.out.2
            have hys2 : Tp.size y ≤ Tp.size a + Tp.size b := by
              have h1 := HS2.out.nml
              rw [List.map_cons, Ug.csz_cons] at h1
              have h2 : (En3.key ⟨.mk 6 xn xl, xa, xcap, y, ya, ycap⟩).2 = y := rfl
              rw [h2] at h1
              omega
            have hnx := hk6.put (HMCH.out.put HYW.out HYM.out ⟨y, ya, ycap⟩ rfl) csz_less hty6 hys2 hm8 hg8
            have hrn := hr6.put hk6.keep.size hk6.map hk6.low hg8
            have HNX := Lib.hid hnx; have HRN := Lib.hid hrn
            clear hnx hrn hk6 hcc hr6 hm8 hg8 hty6 hys2
            go_wp2_with fail
            go_roundg (Ug.csz (R.map En3.key))
            case measure => rw [List.map_cons]; exact csz_less
            case rel => exact ⟨R, _, nm + 1, HNX.out, by rw [← HR.out] at HRN ⊢; exact HRN.out, rfl⟩
        | none =>
          have htm : tmV M xn = .agg #[.int .i64 0, .int .i64 0, .slice none 0 0] := by unfold tmV; rw [hMx]
          rw [htm, hMx] at hlk
          have HMX := Lib.hid hMx
          clear htm hMx
          go_upto_region 12 with fail
          obtain ⟨W5, hW5⟩ : ∃ W, W2.alloc (.cells #[.int .i64 0, .int .i64 0, .slice none 0 0] 24) = W := ⟨_, rfl⟩
          rw [hW5]
          have hb5 : Below W2.heap.size W2 W5 := by rw [← hW5]; exact (Below.refl _ _).alloc (Nat.le_refl _) _
          have hk5 := HS2.out.block hb5
          have hs5 := hk5.keep.size
          have hsm := static_any y ya ycap W5 HYS.out (ty_same (fun z hz => hb5.block z (Nat.lt_of_lt_of_le hz HS2.out.keep.size)) (fun _ h => Nat.lt_of_lt_of_le h hs5) HTY.out.2)
          rw [tv_of HVY.out] at hsm
          clear c1 c4 c5
          have hcc := HCB.out W5 hb5
          have c1 := cell_box (i := 1) hcc rfl rfl
          have c3 := cell_box (i := 3) hcc rfl rfl
          have c4 := cell_box (i := 4) hcc rfl rfl
          have c5 := cell_box (i := 5) hcc rfl rfl
          obtain ⟨z, hz⟩ : ∃ z, Tp.without 5 y = z := ⟨_, rfl⟩
          rw [hz] at hsm
          have HYW := Lib.hid hz; have HSM := Lib.hid hsm; have HB5 := Lib.hid hb5
          clear hz hsm hb5 hk5 hs5 hcc hW5 hlk
          cases z with
          | false =>
            go_upto_region 13 with (go_at_call 60; (with_reducible refine HSM.out.mono ?_); rintro e w6 ⟨rfl, hb⟩; have HB26 := Lib.hid (HB5.out.trans (hb.mono HB5.out.size)); clear hb)
            have HNO := Lib.hid (HMCH.out.no (fun g hg => sv_dyn HRX.out.1 HYW.out))
            clear c1 c3 c4 c5
            go_wp2_with fail
            refine bodyPost_ret (v := .tuple #[.map none, .bool false]) (by simp [results, Try.f40, go_sem]) rfl ?_
            exact ⟨(HS2.out.block HB26.out).keep, .inr ⟨rfl, HNO.out⟩⟩
          | true =>
            have HYM := Lib.hid (show ∀ e, M xn = some e → e.t = y from fun e he => by have h1 := HMX.out; rw [he] at h1; cases h1)
            go_upto_region 14 with (go_at_call 60; (with_reducible refine HSM.out.mono ?_); rintro e w6 ⟨rfl, hb⟩; have HB26 := Lib.hid (HB5.out.trans (hb.mono HB5.out.size)); clear hb)
            have hk6 := HS2.out.block HB26.out
            clear c1 c3 c4 c5
            have hcc := HCB.out w6 HB26.out
            have c1 := cell_box (i := 1) hcc rfl rfl
            have c3 := cell_box (i := 3) hcc rfl rfl
            have c4 := cell_box (i := 4) hcc rfl rfl
            have c5 := cell_box (i := 5) hcc rfl rfl
            have hr6 := HR2.out.block HS2.out.keep.size (.of_below HB26.out)
            obtain ⟨W8, hput, hm8, hg8⟩ := tm_put hk6.map HXI.out ⟨y, ya, ycap⟩ (by have := hk6.nml; have := HSZ.out; omega)
            simp only [keV, HVY.out.1, HVY.out.2.1, HVY.out.2.2] at hput
            have hty6 : TyAt (LT w.heap.size) w6 y ya ycap := ty_same (fun z hz => HB26.out.block z (Nat.lt_of_lt_of_le hz HS2.out.keep.size)) (fun _ h => h) HTY.out.2
            have hys2 : Tp.size y ≤ Tp.size a + Tp.size b := by
              have h1 := HS2.out.nml
              rw [List.map_cons, Ug.csz_cons] at h1
              have h2 : (En3.key ⟨.mk 6 xn xl, xa, xcap, y, ya, ycap⟩).2 = y := rfl
              rw [h2] at h1
              omega
            have hnx := hk6.put (HMCH.out.put HYW.out HYM.out ⟨y, ya, ycap⟩ rfl) csz_less hty6 hys2 hm8 hg8
            have hrn := hr6.put hk6.keep.size hk6.map hk6.low hg8
            have HNX := Lib.hid hnx; have HRN := Lib.hid hrn
            clear hnx hrn hk6 hcc hr6 hm8 hg8 hty6 hys2
            go_wp2_with fail
            go_roundg (Ug.csz (R.map En3.key))
            case measure => rw [List.map_cons]; exact csz_less
            case rel => exact ⟨R, _, nm + 1, HNX.out, by rw [← HR.out] at HRN ⊢; exact HRN.out, rfl⟩
      · have g6 : (xk != 6) = true := by simp [h6]
        have g6' : (xk == 6) = false := by simp [h6]
        by_cases hk : xk = yk
        · subst hk
          obtain ⟨hlk, hnx⟩ := HMCH.out.kids (by rw [HVX.out.1]; exact h6) (by rw [HVX.out.1, HVY.out.1])
          have hlm : xm = ym := by rw [← HVX.out.2.2, ← HVY.out.2.2]; exact hlk
          have HNX := Lib.hid hnx; have HLK := Lib.hid hlk
          have hxm2 : xm ≤ 2 := by
            have h1 := HRX.out.1
            have h2 : Tp.arity x.kind = x.kids.length := by cases x; exact (Tp.right_node h1).1
            have h3 := arity_le x.kind
            rw [HVX.out.2.2] at h2
            omega
          have hrl : r + xm ≤ 4 * 1000000 := by
            have h1 := HS.out.nml
            have h2 := csz_len R
            rw [HR.out] at h2
            rw [List.map_cons, Ug.csz_cons] at h1
            have h3 := HSZ.out
            omega
          subst hlm
          have hcall := addKids_any w.heap.size w.heap.size x y xa xcap ya ycap xk xn xk yn xm R (some ⟨g, 0, none⟩) cap3 W2 HVX.out HVY.out (by have h := HR2.out.row; rw [← HR.out] at h; exact h) HTY.out.1 HTY.out.2 (Nat.le_refl _) HS2.out.keep.size (by rw [HR.out]; exact hrl)
          rw [HR.out] at hcall
          have HCALL := Lib.hid hcall
          have hcA := own_block HR2.out.row rfl
          have HCA := Lib.hid hcA
          have HG1 := Lib.hid (HR2.out.row.lt g rfl).1
          have c1 := cell_box (i := 1) HX2.out rfl rfl
          have c2 := cell_box (i := 2) HX2.out rfl rfl
          have c4 := cell_box (i := 4) HX2.out rfl rfl
          have c5 := cell_box (i := 5) HX2.out rfl rfl
          clear hcall hcA hrl hxm2 hnx hlk h6
          go_wp2_with (go_at_call 58; refine HCALL.out.mono ?_; clear c0 c1 c2 c3 c4 c5; rintro e9 w9 ⟨v9, E, rfl, hak⟩; have HAK := Lib.hid hak; clear hak)
          have hEl : E.map En3.key = Ug.kq x y := by
            have := HAK.out.laid
            unfold Laid at this
            rw [this, List.take_of_length_le (by rw [List.length_zip, HVX.out.2.2, HVY.out.2.2]; omega)]; rfl
          have hmap : (E ++ R).map En3.key = Ug.kq x y ++ R.map En3.key := by rw [List.map_append, hEl]
          obtain ⟨A9, hA9⟩ := HCA.out.2
          have hs9 := (HS2.out.stack hA9 HG1.out HAK.out.keep).next HNX.out (Nat.le_of_lt (csz_kids HLK.out))
          go_roundg (Ug.csz ((E ++ R).map En3.key))
          case measure => rw [hmap]; exact csz_kids HLK.out
          case rel =>
            refine ⟨E ++ R, M, nm, by rw [hmap]; exact hs9, ⟨fun e he => ?_, by rw [List.length_append]; exact HAK.out.own⟩, rfl⟩
            rcases List.mem_append.1 he with he | he
            · exact HAK.out.each e he
            · exact (HR2.out.each e he).same (fun z hz => HAK.out.keep.block z (by have := HS2.out.keep.size; omega) (fun e => by injection e with e; dsimp only at e; have := HG1.out; omega))
        · have gk : (xk != yk) = true := by simp [hk]
          have gk' : (xk == yk) = false := by simp [hk]
          have HNO := Lib.hid (HMCH.out.no (fun g _ => sv_kind (by rw [HVX.out.1]; exact h6) (by rw [HVX.out.1, HVY.out.1]; exact hk)))
          clear h6 hk
          go_wp2_with fail
          refine bodyPost_ret (v := .tuple #[.map none, .bool false]) (by simp [results, Try.f40, go_sem]) rfl ?_
          exact ⟨HS2.out.keep, .inr ⟨rfl, HNO.out⟩⟩
end Go.Proofs.Ytncdbbjkafgphaa
namespace Go.Proofs.Ytncdbbjkafgphaa
open Go Go.RowKit
open Tp (T Bd)
/-- A row of binds of the call's own, whose types lie below n0. -/
structure RowMd (n0 B : Nat) (w : World) (v : Value) (ks : List BKe) : Prop where
  own : w.ownsRow B 44 4 v ks.length (bRow ks)
  each : ∀ e ∈ ks, TyAt (LT n0) w e.t e.a e.cap
theorem RowMd.push {n0 B n : Nat} {w w2 : World} {o : Obj} {g2 cap2 : Nat} {v : Value} {ks : List BKe} {e : BKe} (h : RowMd n0 B w v ks) (hn : ks.length = n) (hnB : n0 ≤ B) (hB : B ≤ w.heap.size) (he : TyAt (LT n0) w e.t e.a e.cap)
    (hown : w2.ownsRow B 44 4 (.slice (some ⟨g2, 0, none⟩) (n + 1) cap2) (n + 1) (bRow ks ++ bkCells e)) (hg : (w.alloc o).grownBy w2 v.ownBlock) : RowMd n0 B w2 (.slice (some ⟨g2, 0, none⟩) (n + 1) cap2) (ks ++ [e]) := by
  subst hn
  have hs : ∀ z, z < n0 → w2.heap[z]? = w.heap[z]? := fun z hz => (hg.block z (by rw [World.size_alloc]; omega) (fun x => by have := (h.own.lt z x.symm).1; omega)).trans (Below.heap_alloc _ _ _ (by omega))
  refine ⟨by rw [bRow_snoc, List.length_append]; exact hown, fun e' he' => ?_⟩
  rcases List.mem_append.1 he' with he' | he'
  · exact ty_same hs (fun _ h => h) (h.each e' he')
  · rw [List.mem_singleton.1 he']; exact ty_same hs (fun _ h => h) he
theorem RowMd.binds {n0 B : Nat} {w : World} {a : Option Addr} {n cap : Nat} {ks : List BKe} (h : RowMd n0 B w (.slice a n cap) ks) (hn : n0 ≤ w.heap.size) : n = ks.length ∧ n ≤ cap ∧ cap ≤ maxLen ∧ BindsAt (LT w.heap.size) w (ks.map fun e => (e.n, e.t)) a := by
  obtain ⟨a', cap', e⟩ := own_shapeT h.own
  injection e with e1 e2 e3
  rcases h.own.2 with ⟨h1, h2⟩ | ⟨g, cp, cur, h1, h2, h3, h4, h5, _⟩
  · have hk : ks = [] := List.eq_nil_of_length_eq_zero h2
    injection h1 with q1 q2 q3
    subst q1 q3
    refine ⟨e2, by omega, Nat.zero_le _, fun i hi => by rw [hk] at hi; simp at hi⟩
  · injection h1 with q1 q2 q3
    subst q1
    subst q3
    refine ⟨e2, by omega, h5, fun i hi => ?_⟩
    have hi' : i < ks.length := by simpa using hi
    have hc := h.own.cells (g := g) rfl
    have k : ∀ j, j < 4 → ∀ u, (bkCells ks[i])[j]? = some u → w.cell? ⟨g, 0 + i * 4 + j, none⟩ = some u := fun j hj u hu => by
      have := hc (i * 4 + j) u (by rw [bRow_at ks i hi' j hj]; exact hu)
      rw [add_flat] at this
      rw [show 0 + i * 4 + j = 0 + (i * 4 + j) from by omega]; exact this
    have ht := ty_same (fun _ _ => rfl) (fun k hk => (Nat.lt_of_lt_of_le hk hn : LT w.heap.size k)) (h.each ks[i] (List.getElem_mem hi'))
    have e0 : (ks.map fun e => ((e.n, e.t) : Bd))[i] = (ks[i].n, ks[i].t) := by simp
    rw [e0]
    exact ⟨g, 0, ks[i].a, ks[i].cap, rfl, (Array.getElem?_eq_some_iff.1 h3).1, ht, k 0 (by omega) _ rfl, k 1 (by omega) _ rfl, k 2 (by omega) _ rfl, k 3 (by omega) _ rfl⟩
def MatPost (t u : T) (w : World) (e : Ending) (w' : World) : Prop := Below w.heap.size w w' ∧
  ((∃ L a c, e = .returned (.tuple #[.slice a L.length c, .bool true]) ∧ BindsAt (LT w'.heap.size) w' L a ∧ L.length ≤ c ∧ c ≤ maxLen ∧ Tp.right t = true ∧ Tp.right u = true ∧ Tp.mat t u [] = some L) ∨
    (e = .returned (.tuple #[.slice none 0 0, .bool false]) ∧ (Tp.right t = true → Tp.right u = true → Tp.mat t u [] = none)))
def mtL (M : TMap) (u : T) (vs : List Int) : List Bd := vs.map fun n => (n, ((M n).map Ke.t).getD u)
/-- What the two ways of ending come to. -/
theorem mh_cases {t u : T} {w w' : World} {e : Ending} (h : MhPost t u w e w') (ht : Tp.right t = true) (hu : Tp.right u = true) : Below w.heap.size w w' ∧ ∃ (o : Option Nat) (z : Bool), e = .returned (.tuple #[.map o, .bool z]) ∧
    (z = true → ∃ M mb nm, o = some mb ∧ Mch t u M [] ∧ TMAt w' mb nm M ∧ (∀ n e, M n = some e → TyAt (LT w.heap.size) w' e.t e.a e.cap)) ∧ (z = false → Tp.mat t u [] = none) := by
  obtain ⟨hb, ⟨M, mb, nm, h1, h2, h3, h4, _⟩ | ⟨h1, h2⟩⟩ := h
  · exact ⟨hb, some mb, true, h1, fun _ => ⟨M, mb, nm, rfl, h2, h3, h4⟩, fun h => by cases h⟩
  · exact ⟨hb, none, false, h1, (fun h => by cases h), fun _ => mt_no h2 ht hu⟩
set_option maxRecDepth 100000 in
set_option maxHeartbeats 8000000 in
theorem match_any (t u : T) (k n k' n' : Int) (m m' : Nat) (a a' : Option Addr) (c c' : Nat) (w : World) (hv : TV t k n m) (hv' : TV u k' n' m') (ht : TyAt (LT w.heap.size) w t a c) (hu : TyAt (LT w.heap.size) w u a' c') (hs : Tp.size t + Tp.size u ≤ 1000000) :
    Calls Try.prog 15 #[.agg #[.int .i64 k, .int .i64 n, .slice a m c], .agg #[.int .i64 k', .int .i64 n', .slice a' m' c']] w (MatPost t u w) := by
  obtain ⟨W2, hW2⟩ : ∃ W, (w.alloc (.cells #[.int .i64 k, .int .i64 n, .slice a m c] 24)).alloc (.cells #[.int .i64 k', .int .i64 n', .slice a' m' c'] 24) = W := ⟨_, rfl⟩
  have hb2 : Below w.heap.size w W2 := by rw [← hW2]; exact ((Below.refl _ _).alloc (Nat.le_refl _) _).alloc (by simp) _
  have hs2 : W2.heap.size = w.heap.size + 2 := by rw [← hW2]; simp
  have hxa : W2.heap[w.heap.size]? = some (.cells #[.int .i64 k, .int .i64 n, .slice a m c] 24) := by rw [← hW2]; exact box1 _ _ _ _ _
  have hxb : W2.heap[w.heap.size + 1]? = some (.cells #[.int .i64 k', .int .i64 n', .slice a' m' c'] 24) := by rw [← hW2]; exact box2 _ _ _ _ _
  have hlow : ∀ V, Below W2.heap.size W2 V → Below w.heap.size w V := fun V hV => hb2.trans (hV.mono hb2.size)
  have htv : ∀ V, Below W2.heap.size W2 V → TyAt (LT V.heap.size) V t a c := fun V hV => ty_same (fun z hz => (hlow V hV).block z hz) (fun _ h => Nat.lt_of_lt_of_le h (hlow V hV).size) ht
  have huv : ∀ V, Below W2.heap.size W2 V → TyAt (LT V.heap.size) V u a' c' := fun V hV => ty_same (fun z hz => (hlow V hV).block z hz) (fun _ h => Nat.lt_of_lt_of_le h (hlow V hV).size) hu
  have hcell : ∀ V, Below W2.heap.size W2 V → (V.cell? ⟨w.heap.size, 0, none⟩ = some (.int .i64 k) ∧ V.cell? ⟨w.heap.size, 1, none⟩ = some (.int .i64 n) ∧ V.cell? ⟨w.heap.size, 2, none⟩ = some (.slice a m c)) ∧ (V.cell? ⟨w.heap.size + 1, 0, none⟩ = some (.int .i64 k') ∧ V.cell? ⟨w.heap.size + 1, 1, none⟩ = some (.int .i64 n') ∧ V.cell? ⟨w.heap.size + 1, 2, none⟩ = some (.slice a' m' c')) := fun V hV => by
    have h := (hV.block w.heap.size (by omega)).trans hxa
    have h' := (hV.block (w.heap.size + 1) (by omega)).trans hxb
    exact ⟨⟨cell_box h rfl rfl, cell_box h rfl rfl, cell_box h rfl rfl⟩, cell_box h' rfl rfl, cell_box h' rfl rfl, cell_box h' rfl rfl⟩
  have hct : ∀ V, Below W2.heap.size W2 V → Calls Try.prog 37 #[.agg #[.int .i64 k, .int .i64 n, .slice a m c]] V fun e w' => e = .returned (.bool (Tp.right t)) ∧ Below V.heap.size V w' := fun V hV => sright_any hv (htv V hV) (by omega)
  have hcu : ∀ V, Below W2.heap.size W2 V → Calls Try.prog 37 #[.agg #[.int .i64 k', .int .i64 n', .slice a' m' c']] V fun e w' => e = .returned (.bool (Tp.right u)) ∧ Below V.heap.size V w' := fun V hV => sright_any hv' (huv V hV) (by omega)
  have HW2 := Lib.hid hW2; have HLOW := Lib.hid hlow; have HTV := Lib.hid htv; have HUV := Lib.hid huv; have HCELL := Lib.hid hcell; have HV := Lib.hid hv; have HV' := Lib.hid hv'; have HS := Lib.hid hs
  clear hb2 hs2 hxa hxb hlow htv huv hcell hv hv' hs ht hu hW2
  go_enter Try.func15, Try.ntmps15
  go_upto_region 1 with fail
  rw [HW2.out]
  obtain ⟨⟨c0, c1, c2⟩, ⟨d0, d1, d2⟩⟩ := HCELL.out W2 (Below.refl _ _)
  obtain ⟨z, hz⟩ : ∃ z, Tp.right t = z := ⟨_, rfl⟩
  have HZ := Lib.hid hz
  rw [hz] at hct
  have HCT := Lib.hid hct; have HCU := Lib.hid hcu
  clear hz hct hcu
  cases z with
  | false =>
    go_wp2_with (go_at_call 37; (with_reducible refine (HCT.out _ (Below.refl _ _)).mono ?_); clear c0 c1 c2 d0 d1 d2; rintro e w3 ⟨rfl, hb⟩; have HB3 := Lib.hid hb; clear hb)
    refine bodyPost_ret (v := .tuple #[.slice none 0 0, .bool false]) (by simp [results, Try.f15, go_sem]) rfl ?_
    exact ⟨HLOW.out _ HB3.out, .inr ⟨rfl, fun h => by have h1 := HZ.out; rw [h] at h1; cases h1⟩⟩
  | true =>
    obtain ⟨z, hz'⟩ : ∃ z, Tp.right u = z := ⟨_, rfl⟩
    have HZ' := Lib.hid hz'
    rw [hz'] at HCU
    clear hz'
    cases z with
    | false =>
      go_wp2_with (first | (go_at_call 37; (with_reducible refine (HCT.out _ (Below.refl _ _)).mono ?_); clear c0 c1 c2 d0 d1 d2; rintro e w3 ⟨rfl, hb⟩; have HB3 := Lib.hid hb; clear hb; obtain ⟨⟨c0, c1, c2⟩, ⟨d0, d1, d2⟩⟩ := HCELL.out w3 HB3.out) | (go_at_call 37; (with_reducible refine (HCU.out _ HB3.out).mono ?_); clear c0 c1 c2 d0 d1 d2; rintro e w4 ⟨rfl, hb⟩; have HB4 := Lib.hid (HB3.out.trans (hb.mono HB3.out.size)); clear hb))
      refine bodyPost_ret (v := .tuple #[.slice none 0 0, .bool false]) (by simp [results, Try.f15, go_sem]) rfl ?_
      exact ⟨HLOW.out _ HB4.out, .inr ⟨rfl, fun _ h => by have h1 := HZ'.out; rw [h] at h1; cases h1⟩⟩
    | true =>
      go_upto_region 3 with (first | (go_at_call 37; (with_reducible refine (HCT.out _ (Below.refl _ _)).mono ?_); clear c0 c1 c2 d0 d1 d2; rintro e w3 ⟨rfl, hb⟩; have HB3 := Lib.hid hb; clear hb; obtain ⟨⟨c0, c1, c2⟩, ⟨d0, d1, d2⟩⟩ := HCELL.out w3 HB3.out) | (go_at_call 37; (with_reducible refine (HCU.out _ HB3.out).mono ?_); clear c0 c1 c2 d0 d1 d2; rintro e w4 ⟨rfl, hb⟩; have HB4 := Lib.hid (HB3.out.trans (hb.mono HB3.out.size)); clear hb; obtain ⟨⟨c0, c1, c2⟩, ⟨d0, d1, d2⟩⟩ := HCELL.out w4 HB4.out))
      have hma := matched_any t u k n k' n' m m' a c a' c' w4 HV.out HV'.out HZ.out HZ'.out (HTV.out _ HB4.out) (HUV.out _ HB4.out) HS.out
      have HMA := Lib.hid hma
      clear hma
      go_upto_region 4 with (go_at_call 40; (with_reducible refine HMA.out.mono ?_); clear c0 c1 c2 d0 d1 d2; rintro e w5 hmh; obtain ⟨hb, o, z, rfl, hyes, hno⟩ := mh_cases hmh HZ.out HZ'.out; have HB45 := Lib.hid hb; have HYES := Lib.hid hyes; have HNO := Lib.hid hno; clear hb hyes hno hmh)
      have HB5 := Lib.hid (HB4.out.trans (HB45.out.mono HB4.out.size))
      cases z with
      | false =>
        go_wp2_with fail
        refine bodyPost_ret (v := .tuple #[.slice none 0 0, .bool false]) (by simp [results, Try.f15, go_sem]) rfl ?_
        exact ⟨HLOW.out _ HB5.out, .inr ⟨rfl, fun _ _ => HNO.out (by trivial)⟩⟩
      | true =>
        obtain ⟨M, mb, nm, rfl, hmc, hmp, hen⟩ := HYES.out rfl
        obtain ⟨⟨c0, c1, c2⟩, ⟨d0, d1, d2⟩⟩ := HCELL.out w5 HB5.out
        have hvs := vars_any t a c w5 (by have := HS.out; omega) (HTV.out _ HB5.out)
        rw [tv_of HV.out] at hvs
        have hvl : (Tp.vars t []).length ≤ 1000000 := by have h1 := Tp.vlenC t []; simp only [List.length_nil] at h1; have := HS.out; omega
        obtain ⟨vs, hvs'⟩ : ∃ z, Tp.vars t [] = z := ⟨_, rfl⟩
        rw [hvs'] at hvs hvl
        obtain ⟨mv, hmv⟩ : ∃ z, vs.length = z := ⟨_, rfl⟩
        rw [hmv] at hvl
        have HVS := Lib.hid hvs; have HVL := Lib.hid hvl; have HVE := Lib.hid hvs'; have HMV := Lib.hid hmv; have HMC := Lib.hid hmc; have HMP := Lib.hid hmp; have HEN := Lib.hid hen
        clear hvs hvl hvs' hmv hmc hmp hen
        go_wp2_with (go_at_call 39; (with_reducible refine HVS.out.mono ?_); clear c0 c1 c2 d0 d1 d2; rintro e w6 ⟨v, rfl, hown, hb⟩; obtain ⟨va, vc, rfl⟩ := own_shapeT hown; rw [HMV.out] at hown ⊢; have HVO := Lib.hid hown; have HB6 := Lib.hid hb; clear hown hb)
        have hn46 : w4.heap.size ≤ w6.heap.size := Nat.le_trans HB45.out.size HB6.out.size
        have HN46 := Lib.hid hn46
        clear hn46
        go_loopg [8, 30] mv (fun gk v i wr => ∃ (k : Nat) (bs : List BKe), k ≤ mv ∧ i = .int .i64 (k : Int) ∧ bs.map (fun e => ((e.n, e.t) : Bd)) = mtL M u (vs.take k) ∧ RowMd w4.heap.size w6.heap.size wr v bs ∧ Below w6.heap.size w6 wr ∧ gk = mv - k)
        case atStart => exact ⟨0, [], Nat.zero_le _, rfl, rfl, ⟨World.ownsRow_nil _ _ _ _, fun _ h => by cases h⟩, Below.refl _ _, rfl⟩
        case round =>
          obtain ⟨k, bs, hkm, rfl, hbs, hrow, hb, rfl⟩ := hrel
          obtain ⟨ra, rc, rfl⟩ := own_shapeT hrow.own
          have hbl : bs.length = k := by have := congrArg List.length hbs; rw [mtL, List.length_map, List.length_map, List.length_take, HMV.out] at this; omega
          rw [hbl] at hrow ⊢
          have HBS := Lib.hid hbs; have HROW := Lib.hid hrow; have HB := Lib.hid hb; have HBL := Lib.hid hbl
          clear hbs hrow hb hbl
          by_cases hlt : k < mv
          · have hkv : k < vs.length := by rw [HMV.out]; exact hlt
            have hva : ∃ vb, va = some ⟨vb, 0, none⟩ ∧ vb < w6.heap.size ∧ wr.cell? ⟨vb, k, none⟩ = some (.int .i64 vs[k]) := by
              rcases HVO.out.2 with ⟨_, h2⟩ | ⟨g, cp, cur, h1, _⟩
              · omega
              · injection h1 with h1 _ _
                subst h1
                have hg := (HVO.out.lt g rfl).2
                refine ⟨g, rfl, hg, ?_⟩
                have h3 := HVO.out.cells (g := g) rfl k (.int .i64 vs[k]) (by rw [List.getElem?_map, List.getElem?_eq_getElem hkv]; rfl)
                rw [add_flat, Nat.zero_add] at h3
                exact (HB.out.cell (p := ⟨g, k, none⟩) hg).trans h3
            obtain ⟨vb, rfl, hvb, v0⟩ := hva
            have hmem := List.getElem_mem hkv
            obtain ⟨vk, hvk⟩ : ∃ z, vs[k] = z := ⟨_, rfl⟩
            rw [hvk] at v0 hmem
            have hocc : Tp.occ vk t = true := ((Tp.mem_vars t [] vk).1 (by rw [HVE.out]; exact hmem)).resolve_left (by simp)
            obtain ⟨⟨et, ea, ec⟩, hMe⟩ : ∃ e, M vk = some e := (HMC.out.cov vk hocc).resolve_right (by simp)
            obtain ⟨ek, eN, em, hve⟩ := TV.mk et
            have hvi : I64 vk := by have h1 := occ_range t vk HZ.out hocc; unfold I64; omega
            have htk : vs.take (k + 1) = vs.take k ++ [vk] := by rw [take_more hkv, hvk]
            have hwl : w5.heap.size ≤ wr.heap.size := Nat.le_trans HB6.out.size HB.out.size
            have hb5r : Below w5.heap.size w5 wr := HB6.out.trans (HB.out.mono HB6.out.size)
            have hmr := HMP.out.same (hb5r.block mb HMP.out.lt)
            have hlk := tm_look (W := wr) hmr hvi false
            have htm : tmV M vk = .agg #[.int .i64 ek, .int .i64 eN, .slice ea em ec] := by unfold tmV; rw [hMe]; simp only [keV, hve.1, hve.2.1, hve.2.2]
            rw [htm] at hlk
            have hte : TyAt (LT w4.heap.size) wr et ea ec := ty_same (fun z hz => hb5r.block z (Nat.lt_of_lt_of_le hz HB45.out.size)) (fun _ h => h) (HEN.out _ _ hMe)
            have HX := Lib.hid HROW.out.own; have HTK := Lib.hid htk; have HVB := Lib.hid hvb; have HTE := Lib.hid hte; have HME := Lib.hid hMe; have HVE2 := Lib.hid hve
            have HNX := Lib.hid (show w6.heap.size ≤ wr.heap.size from HB.out.size)
            obtain ⟨i1, i2⟩ := pt_int hlt
            rw [HBL.out] at HX
            clear htk hvk hvb hmem hocc hMe hve hvi hwl hb5r hmr htm hte
            go_wp2_with (at_builtin; refine append_bd rfl _ _ rfl w6.heap.size (.slice ra k rc) k bs rfl (HX.out.alloc _) ⟨vk, et, ea, ec⟩ wr.heap.size rfl (by simp only [bkCells, HVE2.out.1, HVE2.out.2.1, HVE2.out.2.2]; exact World.alloc_heap_new wr _) (Nat.le_trans (Nat.le_of_lt hlt) HVL.out) (Nat.le_trans HNX.out (by simp)) ?_; intro g1 cap1 w7 own1 gr1 ly1; have OWN1 := Lib.hid own1; have GR1 := Lib.hid gr1; clear own1 gr1 ly1)
            have hnx := HROW.out.push HBL.out HN46.out HNX.out HTE.out OWN1.out GR1.out
            have hbe := below_push3 (n := w6.heap.size) HB.out GR1.out (fun z hz => (HX.out.lt z hz).1) HNX.out
            have HNXT := Lib.hid hnx; have HBE := Lib.hid hbe
            clear hnx hbe v0 hlk i1 i2
            go_roundg (mv - (k + 1))
            case measure => omega
            case rel => exact ⟨k + 1, _, by omega, wrap_k4 (by have := HVL.out; omega), by rw [List.map_append, HBS.out, HTK.out]; unfold mtL; rw [List.map_append]; simp [HME.out], HNXT.out, HBE.out, rfl⟩
          · obtain rfl : k = mv := by omega
            have hL := mt_yes HMC.out HZ.out HZ'.out
            rw [HVE.out] at hL
            have htk : vs.take k = vs := by rw [← HMV.out, List.take_length]
            have hbs := HBS.out
            rw [htk] at hbs
            have hbf : Below w4.heap.size w4 wr := HB45.out.trans ((HB6.out.trans (HB.out.mono HB6.out.size)).mono HB45.out.size)
            have q1 := (HROW.out.binds hbf.size).2.1
            have q2 := (HROW.out.binds hbf.size).2.2.1
            have q3 := (HROW.out.binds hbf.size).2.2.2
            rw [hbs] at q3
            have hlen : (mtL M u vs).length = k := by unfold mtL; rw [List.length_map]; exact HMV.out
            have HQ := Lib.hid (show k ≤ rc ∧ rc ≤ maxLen ∧ BindsAt (LT wr.heap.size) wr (mtL M u vs) ra ∧ (mtL M u vs).length = k ∧ Tp.mat t u [] = some (mtL M u vs) from ⟨q1, q2, q3, hlen, hL⟩)
            have HBF := Lib.hid hbf
            clear hL htk hbs hbf q1 q2 q3 hlen
            go_wp2_with fail
            refine bodyPost_ret (v := .tuple #[.slice ra k rc, .bool true]) (by simp [results, Try.f15, go_sem]) rfl ?_
            obtain ⟨q1, q2, q3, q4, q5⟩ := HQ.out
            exact ⟨HLOW.out _ (HB4.out.trans (HBF.out.mono HB4.out.size)), .inl ⟨_, ra, rc, by rw [q4], q3, by rw [q4]; exact q1, q2, HZ.out, HZ'.out, q5⟩⟩
end Go.Proofs.Ytncdbbjkafgphaa
namespace Go.Proofs.Ytncdbbjkafgphaa
open Go Go.RowKit
open Tp (T Bd)
namespace Tp
open Classical in
/-- Under, as an answer. -/
noncomputable def ub (a b : T) : Bool := decide (right a = true ∧ right b = true ∧ Und a b)
theorem ub_iff {a b : T} (ha : right a = true) (hb : right b = true) : ub a b = true ↔ Und a b := by unfold ub; simp [ha, hb]
/-- Match, as an answer. -/
def mtc (t u : T) : Option (List Bd) := if right t && right u then mat t u [] else none
theorem mtc_right {t u : T} (ht : right t = true) (hu : right u = true) : mtc t u = mat t u [] := by unfold mtc; rw [ht, hu]; rfl
end Tp
theorem under_ub {t u : T} {k n k' n' : Int} {m m' : Nat} {a a' : Option Addr} {c c' : Nat} {w : World} (hv : TV t k n m) (hv' : TV u k' n' m') (ht : TyAt (LT w.heap.size) w t a c) (hu : TyAt (LT w.heap.size) w u a' c') (hs : Tp.size t + Tp.size u ≤ 1000000) :
    Calls Try.prog 16 #[.agg #[.int .i64 k, .int .i64 n, .slice a m c], .agg #[.int .i64 k', .int .i64 n', .slice a' m' c']] w fun e w' => e = .returned (.bool (Tp.ub t u)) ∧ Below w.heap.size w w' := by
  refine (under_any hv hv' ht hu hs).mono ?_
  rintro e w' ⟨z, rfl, hz, hb⟩
  refine ⟨?_, hb⟩
  rw [show z = Tp.ub t u from by rw [Bool.eq_iff_iff, hz]; unfold Tp.ub; simp]
/-- What Match answers. -/
def MaPost (r : Option (List Bd)) (w : World) (e : Ending) (w' : World) : Prop := ∃ a cap, e = .returned (.tuple #[.slice a (r.getD []).length cap, .bool r.isSome]) ∧ (r.getD []).length ≤ cap ∧ cap ≤ maxLen ∧ BindsAt (LT w'.heap.size) w' (r.getD []) a ∧ Below w.heap.size w w'
theorem match_mtc {t u : T} {k n k' n' : Int} {m m' : Nat} {a a' : Option Addr} {c c' : Nat} {w : World} (hv : TV t k n m) (hv' : TV u k' n' m') (ht : TyAt (LT w.heap.size) w t a c) (hu : TyAt (LT w.heap.size) w u a' c') (hs : Tp.size t + Tp.size u ≤ 1000000) :
    Calls Try.prog 15 #[.agg #[.int .i64 k, .int .i64 n, .slice a m c], .agg #[.int .i64 k', .int .i64 n', .slice a' m' c']] w (MaPost (Tp.mtc t u) w) := by
  refine (match_any t u k n k' n' m m' a a' c c' w hv hv' ht hu hs).mono ?_
  rintro e w' ⟨hb, ⟨L, la, lc, rfl, h1, h2, h3, h4, h5, h6⟩ | ⟨rfl, h1⟩⟩
  · have : Tp.mtc t u = some L := by rw [Tp.mtc_right h4 h5]; exact h6
    rw [this]
    exact ⟨la, lc, rfl, h2, h3, h1, hb⟩
  · have : Tp.mtc t u = none := by
      unfold Tp.mtc
      split
      · next h => rw [Bool.and_eq_true] at h; exact h1 h.1 h.2
      · rfl
    rw [this]
    exact ⟨none, 0, rfl, Nat.le_refl _, Nat.zero_le _, fun i hi => by simp at hi, hb⟩
def FV (n : Int) : T := .mk 9 0 [.mk 6 n [], .mk 6 n []]
theorem fv_tv (n : Int) : TV (FV n) 9 0 2 := ⟨rfl, rfl, rfl⟩
theorem fv_size (n : Int) : Tp.size (FV n) = 3 := by simp [FV, Tp.size, Tp.sizes]
theorem var_at {G : Nat → Prop} {w : World} {n : Int} (h : I64 n) : TyAt G w (.mk 6 n []) none 0 := ⟨(show I64 6 from i64_nat (by decide) (by decide)), h, Nat.le_refl _, Nat.zero_le _, (show KidsAt G w [] none by simp [KidsAt])⟩
theorem wk_sub : Tp.sub [(4, .mk 1 0 [])] (FV 4) = funT 1 1 := by simp [FV, funT, Tp.sub, Tp.subs, Tp.look]
theorem wk_right (n : Int) (h0 : 0 ≤ n) (h1 : n ≤ 1048576) : Tp.right (FV n) = true := by simp [FV, Tp.right, Tp.rights, Tp.nodeRight, Tp.arity, h0, h1]
theorem wk_fun (x y : Int) (hx : x = 1 ∨ x = 5) (hy : y = 1 ∨ y = 5) : Tp.right (funT x y) = true := by rcases hx with rfl | rfl <;> rcases hy with rfl | rfl <;> simp [funT, Tp.right, Tp.rights, Tp.nodeRight, Tp.arity]
theorem wk_sok : sokL (FV 4) [(4, .mk 1 0 [])] = true := by
  unfold sokL
  rw [wk_right 4 (by decide) (by decide)]
  simp [Tp.bdRight, Tp.right, Tp.rights, Tp.nodeRight, Tp.arity]
theorem wk_vars : Tp.vars (FV 4) [] = [4] := by simp [FV, Tp.vars, Tp.varss, Tp.addVar]
theorem wk_mat : Tp.mtc (FV 4) (funT 1 1) = some [(4, .mk 1 0 [])] := by
  rw [Tp.mtc_right (wk_right 4 (by decide) (by decide)) (wk_fun 1 1 (.inl rfl) (.inl rfl)), ← wk_sub]
  refine Tp.mat_put (wk_right 4 (by decide) (by decide)) (fun b hb => ?_) (by rw [wk_vars]; rfl)
  rw [List.mem_singleton.1 hb]
  simp [Tp.right, Tp.rights, Tp.nodeRight, Tp.arity, Tp.without, Tp.withouts]
theorem wk_canon : Tp.canon (FV 4) = FV 0 := by
  unfold Tp.canon
  rw [wk_vars]
  simp [FV, Tp.numb, Tp.sub, Tp.subs, Tp.look]
theorem wk_no : Tp.mtc (.mk 6 0 []) (.mk 5 0 []) = none := by
  unfold Tp.mtc
  split
  · rw [Tp.mat_var]; simp [Tp.look, Tp.without]
  · rfl
theorem wk_under : Tp.ub (FV 4) (funT 5 1) = true := by
  rw [Tp.ub_iff (wk_right 4 (by decide) (by decide)) (wk_fun 5 1 (.inr rfl) (.inl rfl))]
  refine Tp.und_of (L := [(4, .mk 1 0 [])]) (M := []) ?_ ?_ ?_
  · rw [wk_vars]
    intro n hn
    rw [List.mem_singleton.1 hn]
    exact ⟨.mk 1 0 [], by simp [Tp.look], by simp [Tp.right, Tp.rights, Tp.nodeRight, Tp.arity], by simp [Tp.without, Tp.withouts], by simp [Tp.without, Tp.withouts]⟩
  · intro n hn
    simp [funT, Tp.vars, Tp.varss, Tp.addVar] at hn
  · rw [wk_sub, Tp.sub_nil]
    simp [funT, Tp.below, Tp.belows]
theorem wk_not : Tp.ub (.mk 8 0 [.mk 5 0 []]) (.mk 8 0 [.mk 6 0 []]) = false := by
  rw [Bool.eq_false_iff]
  intro h
  unfold Tp.ub at h
  simp only [decide_eq_true_eq] at h
  obtain ⟨_, _, R, S, _, h2, h3⟩ := h
  obtain ⟨v, hv, _, hs, _⟩ := h2 0 (by simp [Tp.vars, Tp.varss, Tp.addVar])
  have e1 : Tp.sub S (.mk 8 0 [.mk 6 0 []]) = .mk 8 0 [v] := by simp [Tp.sub, Tp.subs, hv]
  have e2 : Tp.sub R (.mk 8 0 [.mk 5 0 []]) = .mk 8 0 [.mk 5 0 []] := by simp [Tp.sub, Tp.subs]
  rw [e1, e2] at h3
  cases v with | mk k n l =>
  have hk : k ≠ 5 := fun e => by subst e; simp [Tp.without] at hs
  simp [Tp.below, Tp.belows, hk, Ne.symm hk] at h3
end Go.Proofs.Ytncdbbjkafgphaa
