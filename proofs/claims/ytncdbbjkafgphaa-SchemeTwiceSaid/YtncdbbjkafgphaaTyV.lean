/- typ.Vars. -/
import Derived.Test.YtncdbbjkafgphaaTyS
import Derived.Maps.OwnIn
import Derived.Maps.OwnSet
import Derived.Maps.Views
import Derived.Carry
import Derived.WalkArith
namespace Go.Proofs.Ytncdbbjkafgphaa
open Go Go.RowKit Go.Shelf
open Tp (T)

attribute [local go_sem] Oper.semAt_some

theorem Ab.row (base b0 : Nat) (e : TypeId) (sz : Nat) (v : Value) (n : Nat) (xs : List Value) : Ab base fun M W => W.ownsRow b0 e sz v n xs ∧ ∀ g, v.ownBlock = some g → ¬ M g := fun M M' A B h _ hT hM => by
  refine ⟨own_same h.1 fun g hg => hT.block g (h.1.lt g hg).2 (h.2 g hg), fun g hg x => ?_⟩
  rcases (hM g x).1 with y | y
  · exact h.2 g hg y
  · have := (h.1.lt g hg).2; omega
theorem map_same {P : Program} {k : TypeId} {R : Value → Option (DataW Unit × List MemPlace)} {b n : Nat} {D : DataW Unit} {w w' : World} (h : w.ownsMap P k R b n D) (hs : w'.heap[b]? = w.heap[b]?) : w'.ownsMap P k R b n D := by
  obtain ⟨es, clock, hb, F, hz, hD⟩ := h
  exact ⟨es, clock, hs.trans hb, F, hz, hD⟩
theorem map_lt {P : Program} {k : TypeId} {R : Value → Option (DataW Unit × List MemPlace)} {b n : Nat} {D : DataW Unit} {w : World} (h : w.ownsMap P k R b n D) : b < w.heap.size := by
  obtain ⟨es, clock, hb, _⟩ := h
  exact (Array.getElem?_eq_some_iff.1 hb).1
theorem Ab.map (base : Nat) (P : Program) (k : TypeId) (R : Value → Option (DataW Unit × List MemPlace)) (b n : Nat) (D : DataW Unit) : Ab base fun M W => W.ownsMap P k R b n D ∧ ¬ M b := fun M M' A B h _ hT hM => by
  refine ⟨map_same h.1 (hT.block b (map_lt h.1) h.2), fun x => ?_⟩
  rcases (hM b x).1 with y | y
  · exact h.2 y
  · have := map_lt h.1; omega
/-- The variables that have come. -/
def told (pre : List Nd) : List Int := Tp.rowVars (pre.map Nd.key) []
theorem told_snoc (pre : List Nd) (x : Nd) : told (pre ++ [x]) = Tp.addVar x.t.kind x.t.num (told pre) := by
  unfold told; rw [keys_snoc, Tp.rowVars_append]; rfl
theorem rowVars_length : ∀ (l : List (T × Nat)) (acc : List Int), (Tp.rowVars l acc).length ≤ acc.length + l.length
  | [], acc => by simp [Tp.rowVars]
  | x :: r, acc => by
    have h := rowVars_length r (Tp.addVar x.1.kind x.1.num acc)
    have h2 : (Tp.addVar x.1.kind x.1.num acc).length ≤ acc.length + 1 := by unfold Tp.addVar; split <;> simp
    simp only [Tp.rowVars, List.length_cons]; omega
theorem told_length (pre : List Nd) : (told pre).length ≤ pre.length := by
  have := rowVars_length (pre.map Nd.key) []
  rw [List.length_map, List.length_nil, Nat.zero_add] at this; exact this
/-- The set of those that have come, as a map reads. -/
def toldSet (L : List Int) : DataW Unit := Maps.setOf (.agg []) (L.map (Lit.int .i64))
theorem toldSet_snoc (L : List Int) (n : Int) : toldSet (L ++ [n]) = (toldSet L).put (.int .i64 n) (.agg []) := by unfold toldSet; rw [List.map_append]; exact Maps.setOf_snoc _ _ _
theorem toldSet_has (L : List Int) (n : Int) : Maps.has (toldSet L) (.int .i64 n) = decide (n ∈ L) := by
  unfold toldSet
  rw [Maps.has_setOf _ _ _ (fun x hx => by obtain ⟨y, _, rfl⟩ := List.mem_map.1 hx; trivial)]
  rw [Bool.eq_iff_iff, List.any_eq_true, decide_eq_true_eq]
  constructor
  · rintro ⟨x, hx, h⟩
    obtain ⟨y, hy, rfl⟩ := List.mem_map.1 hx
    simp [Lit.sameKey] at h
    exact h ▸ hy
  · intro h
    exact ⟨_, List.mem_map.2 ⟨n, h, rfl⟩, by simp [Lit.sameKey]⟩
theorem wf_of {n : Int} (h : I64 n) : (Lit.int .i64 n).wf = true := WalkArith.wf_i64 h
theorem b8 {n : Nat} (h : n ≤ 1000000) : n + 1 ≤ maxLen ∧ (n + 1) * 8 ≤ 140737488355328 ∧ n < maxLen := by unfold maxLen; omega
theorem own_base {w : World} {b b' : Nat} {e : TypeId} {sz : Nat} {v : Value} {n : Nat} {xs : List Value} (h : w.ownsRow b e sz v n xs) (hb : b' ≤ b) : w.ownsRow b' e sz v n xs := by
  obtain ⟨h1, h2 | ⟨g, cap, cur, h3, h4, h5⟩⟩ := h
  · exact ⟨h1, .inl h2⟩
  · exact ⟨h1, .inr ⟨g, cap, cur, h3, Nat.le_trans hb h4, h5⟩⟩
/-- What typ.Vars hands back. -/
def RowPost (L : List Int) (w : World) (e : Ending) (w' : World) : Prop := ∃ v, e = .returned v ∧ w'.ownsRow w.heap.size 3 1 v L.length (L.map (Value.int .i64)) ∧ Below w.heap.size w w'
theorem zero_unit (w : World) : (zeroValue 79).run Try.prog w = .ok (.agg #[]) w := by kernel_rfl
theorem info_int : (Try.prog.info? 3).map (fun i => (i.zero, i.size, i.bytes)) = some (some (.int .i64 0), 1, 8) := by kernel_rfl

set_option maxRecDepth 100000 in
set_option maxHeartbeats 4000000 in
theorem vars_any (t : T) (a : Option Addr) (cap : Nat) (w : World) (hsz : Tp.size t ≤ 1000000) (hty : TyAt (LT w.heap.size) w t a cap) :
    Calls Try.prog 39 #[tv t a cap] w (RowPost (Tp.vars t []) w) := by
  have hmm := @run_makeMap Try.prog
  refine callsIn_wide (n := 9) |>.1 ?_
  have HTY := Lib.hid hty; clear hty
  obtain ⟨k0, hk0⟩ : ∃ k0, t.kind = k0 := ⟨_, rfl⟩
  obtain ⟨n0, hn0⟩ : ∃ n0, t.num = n0 := ⟨_, rfl⟩
  obtain ⟨m0, hm0⟩ : ∃ m0, t.kids.length = m0 := ⟨_, rfl⟩
  unfold tv
  have h30 := fun w => nodes_any t a cap w
  unfold tv at h30
  rw [hk0, hn0, hm0] at h30 ⊢
  have HK := Lib.hid hk0; have HN := Lib.hid hn0; have HM := Lib.hid hm0; have H30 := Lib.hid h30
  clear hk0 hn0 hm0 h30
  refine callsIn_of_wp_marks Try.func39 rfl trivial ?_ rfl
  simp only [Try.ntmps39, List.size_toArray, List.length_cons, List.length_nil, Nat.reduceAdd, Nat.reduceSub, Array.replicate_succ, Array.replicate_zero, List.push_toArray, List.append_toArray, List.nil_append, List.cons_append]
  gi_wp2_with (refine ⟨trivial, ?_⟩; gi_at_call 57; refine (callsIn_wide.2 (H30.out _)).mono ?_; rintro e w' ⟨rfl, rfl⟩)
  have hb0 : Below w.heap.size w (((((w.alloc (.cells #[.int .i64 k0, .int .i64 n0, .slice a m0 cap] 24)).alloc (.cells #[.slice none 0 0] 46)).alloc (.map #[] 0)).alloc (.cells #[.map (some (w.heap.size + 1 + 1))] 75)).alloc (.cells #[.int .i64 k0, .int .i64 n0, .slice a m0 cap] 24)) := (((((Below.refl _ _).alloc (Nat.le_refl _) _).alloc (by simp) _).alloc (by simp <;> omega) _).alloc (by simp <;> omega) _).alloc (by simp <;> omega) _
  obtain ⟨W0, hW0⟩ : ∃ W0, (((((w.alloc (.cells #[.int .i64 k0, .int .i64 n0, .slice a m0 cap] 24)).alloc (.cells #[.slice none 0 0] 46)).alloc (.map #[] 0)).alloc (.cells #[.map (some (w.heap.size + 1 + 1))] 75)).alloc (.cells #[.int .i64 k0, .int .i64 n0, .slice a m0 cap] 24)) = W0 := ⟨_, rfl⟩
  have hs0 : W0.heap.size = w.heap.size + 5 := by rw [← hW0]; simp
  have hl : W0.heap[w.heap.size + 1]? = some (.cells #[.slice none 0 0] 46) := by
    rw [← hW0]; exact (Below.heap_alloc _ _ _ (by simp <;> omega)).trans ((Below.heap_alloc _ _ _ (by simp <;> omega)).trans ((Below.heap_alloc _ _ _ (by simp)).trans (box2 _ _ _ _ _)))
  have hmp : W0.heap[w.heap.size + 1 + 1 + 1]? = some (.cells #[.map (some (w.heap.size + 1 + 1))] 75) := by
    rw [← hW0]; exact (Below.heap_alloc _ _ _ (by simp)).trans (by have := World.alloc_heap_new (((w.alloc (.cells #[.int .i64 k0, .int .i64 n0, .slice a m0 cap] 24)).alloc (.cells #[.slice none 0 0] 46)).alloc (.map #[] 0)) (.cells #[.map (some (w.heap.size + 1 + 1))] 75); simpa using this)
  have hom : W0.ownsMap Try.prog 3 unitElem (w.heap.size + 1 + 1) 0 (toldSet []) := by
    have h := World.ownsMap_made (H := Unit) ((w.alloc (.cells #[.int .i64 k0, .int .i64 n0, .slice a m0 cap] 24)).alloc (.cells #[.slice none 0 0] 46)) Try.prog 3 unitElem
    rw [World.size_alloc, World.size_alloc] at h
    rw [← hW0]
    exact map_same (map_same h (Below.heap_alloc _ _ _ (by simp))) (Below.heap_alloc _ _ _ (by simp <;> omega))
  have hbt : W0.heap[w.heap.size + 1 + 1 + 1 + 1]? = some (.cells #[.int .i64 t.kind, .int .i64 t.num, .slice a t.kids.length cap] 24) := by
    rw [HK.out, HN.out, HM.out, ← hW0]; have := World.alloc_heap_new ((((w.alloc (.cells #[.int .i64 k0, .int .i64 n0, .slice a m0 cap] 24)).alloc (.cells #[.slice none 0 0] 46)).alloc (.map #[] 0)).alloc (.cells #[.map (some (w.heap.size + 1 + 1))] 75)) (.cells #[.int .i64 k0, .int .i64 n0, .slice a m0 cap] 24); simpa using this
  rw [hW0] at hb0 ⊢
  have HSZ0 := Lib.hid hs0
  refine wpIn_range_mine (gf := 73) (lb := #[.pointer (some ⟨w.heap.size + 1 + 1 + 1 + 1, 0, none⟩)]) rfl (enters_of Try.func73 (by kernel_rfl) rfl)
    (nodes_seq t hsz w.heap.size (w.heap.size + 1 + 1 + 1 + 1) a cap _ hb0.size (HTY.out.below hb0 (fun _ h => h) (fun _ h => h)) hbt)
    (Below.refl _ _) hb0.size (fun _ => rfl)
    (fun M pre W => (W.heap[w.heap.size + 1 + 1 + 1]? = some (.cells #[.map (some (w.heap.size + 1 + 1))] 75) ∧ ¬ M (w.heap.size + 1 + 1 + 1)) ∧ ((∃ v, (W.heap[w.heap.size + 1]? = some (.cells #[v] 46) ∧ ¬ M (w.heap.size + 1)) ∧ (W.ownsRow (w.heap.size + 5) 3 1 v (told pre).length ((told pre).map (Value.int .i64)) ∧ ∀ g, v.ownBlock = some g → ¬ M g)) ∧
      ((W.ownsMap Try.prog 3 unitElem (w.heap.size + 1 + 1) (told pre).length (toldSet (told pre)) ∧ ¬ M (w.heap.size + 1 + 1)) ∧ Below w.heap.size w W)))
    (fun _ _ _ _ => False)
    (fun x a' M W => ∃ B, (W.heap[B]? = some (.cells #[.int .i64 x.t.kind, .int .i64 x.t.num, .slice x.a x.t.kids.length x.cap] 24) ∧ ¬ M B) ∧ a' = { tmps := #[.agg #[.int .i64 k0, .int .i64 n0, .slice a m0 cap], .pointer (some ⟨w.heap.size, 0, none⟩), .slice none 0 0, .pointer (some ⟨w.heap.size + 1, 0, none⟩), .pointer (some ⟨w.heap.size + 1 + 1 + 1, 0, none⟩), .pointer (some ⟨B, 0, none⟩), undef, undef, .map (some (w.heap.size + 1 + 1)), .agg #[.int .i64 k0, .int .i64 n0, .slice a m0 cap], .func (.func 73) #[] #[.pointer (some ⟨w.heap.size + 1 + 1 + 1 + 1, 0, none⟩)], tv x.t x.a x.cap, .int .i64 (x.d : Int), undef, undef, undef, undef, undef, undef, undef, undef, undef, undef, undef, undef, undef, undef, undef, undef, undef, undef, undef, undef, undef, undef], defers := [] })
    (fun s => Ab.and (Ab.block _ _ _) (Ab.and (Ab.ex fun v => Ab.and (Ab.block _ _ _) (Ab.row _ _ _ _ _ _ _)) (Ab.and (Ab.map _ _ _ _ _ _ _) (Ab.below hb0.size w (Nat.le_refl _))))) (fun _ _ => Ab.pure _ _) (fun _ _ => Ab.ex fun B => Ab.and (Ab.block _ _ _) (Ab.pure _ _))
    ⟨⟨hmp, fun h => h⟩, ⟨_, ⟨hl, fun h => h⟩, World.ownsRow_nil _ _ _ _, fun g hg => by cases hg⟩, ⟨hom, fun h => h⟩, hb0⟩ ?assign ?body ?done ?stop
  case assign =>
    intro l M pre x W K hi hM hok hK
    simp only [ndEnc, tv]
    have HM' := Lib.hid hM
    clear hb0 hl hmp hom hbt hi hs0 hW0 hmm hM
    gi_wp2
    refine hK _ _ (Turns.alloc _ _ _) ⟨W.heap.size, ⟨World.alloc_heap_new _ _, fun h => by have := (HM'.out _ h).2; omega⟩, ?_⟩
    simp [tv]
  case body =>
    rintro l M pre x a' W ⟨⟨hp, hpM⟩, ⟨v, ⟨hlb, hlM⟩, hrow, hrM⟩, ⟨hmap, hmM⟩, hbl⟩ hM hle hok ⟨B, ⟨hB, hBM⟩, rfl⟩
    have hlen := nd_len hok hsz
    have hln := told_length pre
    have HOK := Lib.hid hok; have HM' := Lib.hid hM; have HBL := Lib.hid hbl; have HPM := Lib.hid hpM; have HLM := Lib.hid hlM; have HRM := Lib.hid hrM; have HMM := Lib.hid hmM
    have cp : W.cell? ⟨w.heap.size + 1 + 1 + 1, 0, none⟩ = some (.map (some (w.heap.size + 1 + 1))) := cell_box hp rfl rfl
    have cl : W.cell? ⟨w.heap.size + 1, 0, none⟩ = some v := cell_box hlb rfl rfl
    have fl : W.frozen? ⟨w.heap.size + 1, 0, none⟩ = false := Boxed.frozen hlb
    have cB : W.cell? ⟨B, 0, none⟩ = some (.int .i64 x.t.kind) := cell_box hB rfl rfl
    have cB1 : W.cell? ⟨B, 1, none⟩ = some (.int .i64 x.t.num) := cell_box hB rfl rfl
    have hBlt := (Array.getElem?_eq_some_iff.1 hB).1
    have hLlt := (Array.getElem?_eq_some_iff.1 hlb).1
    have hsn := told_snoc pre x
    have hin := hok.2.2.1
    obtain ⟨xk, hxk⟩ : ∃ xk, x.t.kind = xk := ⟨_, rfl⟩
    obtain ⟨xn, hxn⟩ : ∃ xk, x.t.num = xk := ⟨_, rfl⟩
    obtain ⟨L, hL⟩ : ∃ L, told pre = L := ⟨_, rfl⟩
    rw [hxk] at cB; rw [hxn] at cB1 hin; rw [hL] at hrow hmap hln hsn; rw [hxk, hxn] at hsn
    have HSZ := Lib.hid (show w.heap.size + 5 ≤ W.heap.size from by rw [← hs0]; exact hle)
    have HP := Lib.hid hp; have HLB := Lib.hid hlb; have HROW := Lib.hid hrow; have HMAP := Lib.hid hmap; have HSN := Lib.hid hsn; have HXK := Lib.hid hxk; have HXN := Lib.hid hxn; have HL := Lib.hid hL; have HB := Lib.hid hB; have HLN := Lib.hid hln; have HIN := Lib.hid hin; have HBLT := Lib.hid hBlt; have HLLT := Lib.hid hLlt; have HLEN := Lib.hid hlen; have HBM := Lib.hid hBM; have HMMK := Lib.hid hmm
    clear hp hlb hB hpM hlM hrM hmM hBM hM hle hok hbl hrow hmap hxk hxn hL hsn hln hb0 hl hmp hom hbt hs0 hW0 hmm hin hBlt hLlt hlen
    have hkey : keyOf Try.prog 3 (.int .i64 xn) = some (.int .i64 xn) := Maps.keyOf_int_mk Try.underlying3 (wf_of HIN.out)
    have HKEY := Lib.hid hkey; clear hkey
    by_cases hk6 : xk = 6
    · subst hk6
      by_cases hnl : xn ∈ L
      · have hadd : Tp.addVar 6 xn L = L := by unfold Tp.addVar; rw [if_neg (fun h => h.2 hnl)]
        have hhas : Maps.has (toldSet L) (.int .i64 xn) = true := by rw [toldSet_has]; exact decide_eq_true hnl
        have HADD := Lib.hid hadd; have HNL := Lib.hid hnl; clear hadd hnl
        gi_wp2_with (gi_at_lookup; refine wpListIn_lookup_own_unit _ rfl _ _ 75 rfl 3 79 (Maps.int_keyed Try.underlying3) Try.underlying75 (zero_unit _) (w.heap.size + 1 + 1) L.length (toldSet L) rfl HMAP.out _ _ rfl HKEY.out ?_)
        refine ⟨Turns.alloc _ _ _, ⟨(Below.heap_alloc _ _ _ (Array.getElem?_eq_some_iff.1 HP.out).1).trans HP.out, HPM.out⟩, ⟨v, ⟨(Below.heap_alloc _ _ _ HLLT.out).trans HLB.out, HLM.out⟩, ?_, HRM.out⟩, ⟨?_, HMM.out⟩, HBL.out.alloc HBL.out.size _⟩
        · rw [HSN.out, HADD.out]; exact HROW.out.alloc _
        · rw [HSN.out, HADD.out]; exact map_same HMAP.out (Below.heap_alloc _ _ _ (map_lt HMAP.out))
      · have hadd : Tp.addVar 6 xn L = L ++ [xn] := by unfold Tp.addVar; rw [if_pos ⟨rfl, hnl⟩]
        have hhas : Maps.has (toldSet L) (.int .i64 xn) = false := by rw [toldSet_has]; exact decide_eq_false hnl
        have HADD := Lib.hid hadd; have HNL := Lib.hid hnl; clear hadd hnl
        have hB2 : B ≠ w.heap.size + 1 + 1 := fun e => by
          obtain ⟨es, clock, hb, _⟩ := HMAP.out
          have := HB.out; rw [e, hb] at this; cases this
        have HB2 := Lib.hid hB2; clear hB2
        obtain ⟨i0, hi, hz0, hz1, hz2⟩ := info_parts info_int
        have hbn := b8 (n := L.length) (Nat.le_trans HLN.out (by have := HLEN.out; omega))
        have HBN := Lib.hid hbn; clear hbn
        have hsW : w.heap.size + 5 ≤ W.heap.size := HSZ.out
        have HSW := Lib.hid hsW; clear hsW
        have hlt3 : w.heap.size + 1 + 1 + 1 < W.heap.size := by have := HSW.out; omega
        have hlt1 := HLLT.out
        have hltB := HBLT.out
        gi_wp2_with (first
          | (gi_at_lookup; refine wpListIn_lookup_own_unit _ rfl _ _ 75 rfl 3 79 (Maps.int_keyed Try.underlying3) Try.underlying75 (zero_unit _) (w.heap.size + 1 + 1) L.length (toldSet L) rfl HMAP.out _ _ rfl HKEY.out ?_)
          | (gi_at_mapUpdate; refine wpListIn_mapUpdate_own _ rfl _ _ _ 75 rfl 3 79 (Maps.int_keyed Try.underlying3) Try.underlying75 unitElem (w.heap.size + 1 + 1) L.length (toldSet L) rfl (map_same HMAP.out (Below.heap_alloc _ _ _ (map_lt HMAP.out))) (HBN.out.2.2) _ _ _ rfl rfl HKEY.out (.agg []) [] unitElem_mk ?_; intro w1 hown1 hgrow1; have e1 : ∀ k, k < W.heap.size → k ≠ w.heap.size + 1 + 1 → w1.heap[k]? = W.heap[k]? := (fun k hk hne => (hgrow1.block k (by simp; omega) (fun e => hne (by injection e))).trans (Below.heap_alloc _ _ _ hk)); have lb1 := (e1 _ HLLT.out (by omega)).trans HLB.out; have cl1 : w1.cell? ⟨w.heap.size + 1, 0, none⟩ = some v := cell_box lb1 rfl rfl; have cB2 : w1.cell? ⟨B, 1, none⟩ = some (.int .i64 xn) := cell_box HB.out (e1 _ HBLT.out HB2.out) (by rw [HXN.out]; rfl); have HE1 := Lib.hid e1; have HO1 := Lib.hid hown1; have HG1 := Lib.hid hgrow1; have HLB1 := Lib.hid lb1; clear e1 hown1 hgrow1 lb1 cl cB cB1 cp fl hhas)
          | (gi_at_builtin; refine wpListIn_append_lies _ rfl (.tmp 29) (.tmp 32) 46 rfl (w.heap.size + 5) 3 i0 (.int .i64 0) 1 8 Try.underlying46 hi hz0 hz1 hz2 rfl (by decide) v L.length (L.map (Value.int .i64)) rfl ((own_same HROW.out (fun g hg => HE1.out g (HROW.out.lt g hg).2 (by have := (HROW.out.lt g hg).1; omega))).alloc _) ⟨w1.heap.size, 0, none⟩ 1 1 [.int .i64 xn] rfl rfl (World.news_of_block (World.alloc_heap_new w1 _)) (by intro u hu; obtain rfl := List.mem_singleton.1 hu; rfl) (by decide) HBN.out.1 HBN.out.2.1 (Nat.le_trans HSW.out (Nat.le_trans (by simp) (Nat.le_trans HG1.out.size (by simp)))) ?_; intro g2 cap2 w2 own2 gr2 ly2; have lb2 : w2.heap[w.heap.size + 1]? = some (.cells #[v] 46) := (gr2.block _ (Nat.lt_of_lt_of_le HLLT.out (Nat.le_trans (by simp) (Nat.le_trans HG1.out.size (by simp)))) (fun e => by have := (HROW.out.lt _ e.symm).1; omega)).trans ((Below.heap_alloc _ _ _ (Nat.lt_of_lt_of_le HLLT.out (Nat.le_trans (by simp) HG1.out.size))).trans HLB1.out); have cl2 : w2.cell? ⟨w.heap.size + 1, 0, none⟩ = some v := cell_box lb2 rfl rfl; have fl2 : w2.frozen? ⟨w.heap.size + 1, 0, none⟩ = false := Boxed.frozen lb2; have HO2 := Lib.hid own2; have HLY2 := Lib.hid ly2; have HG2 := Lib.hid gr2; have HLB2 := Lib.hid lb2; clear own2 gr2 ly2 lb2 cl1 cB2))
        have hA : Turns (fun k => w.heap.size ≤ k ∧ ¬ M k) W w1 := (Turns.alloc _ W _).trans (Turns.of_grown HG1.out (fun k e => by injection e with e; subst e; exact ⟨by omega, HMM.out⟩))
        have hB' : Turns (fun k => w.heap.size ≤ k ∧ ¬ M k) W w2 := push_turns hA HG2.out (fun k e _ => ⟨by have := (HROW.out.lt k e).1; omega, HRM.out k e⟩)
        have hC := hB'.trans (Turns.setCell w2 ⟨w.heap.size + 1, 0, none⟩ (.slice (some ⟨g2, 0, none⟩) (L.length + 1) cap2) ⟨by simp, HLM.out⟩)
        have k1 : ∀ k, k < w1.heap.size → k < w.heap.size + 5 → w2.heap[k]? = w1.heap[k]? := fun k hk h5 => (HG2.out.block k (by rw [World.size_alloc]; omega) (fun e => by have := (HROW.out.lt _ e.symm).1; omega)).trans (Below.heap_alloc _ _ _ hk)
        have hw1 : W.heap.size ≤ w1.heap.size := hA.size
        have hg2 : w.heap.size + 5 ≤ g2 := (HO2.out.lt g2 rfl).1
        refine ⟨hC, ⟨?_, HPM.out⟩, ⟨_, ⟨Boxed.set _ HLB2.out, HLM.out⟩, ?_, ?_⟩, ⟨?_, HMM.out⟩, hC.below HBL.out (fun k h => h.1) HBL.out.size⟩
        · exact (Below.heap_setCell _ _ _ _ (by dsimp only; omega)).trans ((k1 _ (by omega) (by omega)).trans ((HE1.out _ hlt3 (by omega)).trans HP.out))
        · rw [HSN.out, HADD.out, List.length_append, List.map_append]
          exact own_same HO2.out (fun g hg => Below.heap_setCell _ _ _ _ (by injection hg with hg; subst hg; dsimp only; omega))
        · intro g hg hM'
          injection hg with hg
          subst hg
          rcases HLY2.out with h | h
          · exact HRM.out _ h hM'
          · have := (HM'.out _ hM').2
            rw [World.size_alloc] at h
            dsimp only at this
            omega
        · rw [HSN.out, HADD.out, List.length_append, toldSet_snoc]
          exact map_same HO1.out ((Below.heap_setCell _ _ _ _ (by dsimp only; omega)).trans (k1 _ (by omega) (by omega)))
    · have hk6' : (xk != 6) = true := by simp [hk6]
      have hadd : Tp.addVar xk xn L = L := by unfold Tp.addVar; rw [if_neg (fun h => hk6 h.1)]
      have HADD := Lib.hid hadd; have HK6 := Lib.hid hk6; clear hadd hk6
      gi_wp2
      refine ⟨Turns.refl _ _, ⟨HP.out, HPM.out⟩, ⟨v, ⟨HLB.out, HLM.out⟩, ?_, HRM.out⟩, ⟨?_, HMM.out⟩, HBL.out⟩
      · rw [HSN.out, HADD.out]; exact HROW.out
      · rw [HSN.out, HADD.out]; exact HMAP.out
  case done =>
    rintro D M xs W hD hS ⟨⟨hp, hpM⟩, ⟨v, ⟨hlb, hlM⟩, hrow, hrM⟩, ⟨hmap, hmM⟩, hbl⟩ hK
    have cl : W.cell? ⟨w.heap.size + 1, 0, none⟩ = some v := cell_box hlb rfl rfl
    have hT : told xs = Tp.vars t [] := by unfold told; rw [show xs.map Nd.key = Tp.pre t 1 from hS, Tp.pre_vars]
    rw [hT] at hrow
    have hDne : ∀ g, v.ownBlock = some g → g ≠ D := fun g hg e => by
      rcases hrow.2 with ⟨h1, _⟩ | ⟨g', cap', cur, h1, _, h3, _⟩
      · rw [h1] at hg; cases hg
      · rw [h1] at hg; injection hg with hg; subst hg; dsimp only at e; rw [e, hK] at h3; cases h3
    have hrow' : (W.putObj D (.deferred none)).ownsRow w.heap.size 3 1 v (Tp.vars t []).length ((Tp.vars t []).map (Value.int .i64)) := by
      refine own_same (own_base hrow (by omega)) (fun g hg => World.putObj_heap_other (hDne g hg))
    have HROW := Lib.hid hrow'; have HBL := Lib.hid hbl; have HDD := Lib.hid hD
    clear hp hlb hrow hrow' hmap hbl hl hmp hom hbt hs0 hW0 hb0 hmm hT hDne hS
    gi_wp2
    refine ⟨by simp, .inl ⟨_, _, rfl, run_takeDeferred hK, ?_⟩⟩
    exact ⟨_, results_tmp rfl _ _ _, v, rfl, HROW.out, (Turns.putObj (M := fun k => w.heap.size ≤ k) W D _ (by have := HSZ0.out; have := HDD.out; omega)).below HBL.out (fun _ h => h) HBL.out.size⟩
  case stop =>
    rintro D M c pre W hD h _
    exact h.elim
end Go.Proofs.Ytncdbbjkafgphaa
