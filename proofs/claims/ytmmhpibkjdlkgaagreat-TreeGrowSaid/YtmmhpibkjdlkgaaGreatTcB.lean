/- tree.CheckPat, walked. -/
import Derived.Test.YtmmhpibkjdlkgaaGreatTeG
import Derived.Test.YtmmhpibkjdlkgaaGreatTyS
import Derived.Shelf.RegionOpen
namespace Go.Proofs.YtmmhpibkjdlkgaaGreat
open Go Go.RowKit Go.Shelf
open Tr (P)

attribute [local go_sem] Oper.semAt_some


set_option maxRecDepth 100000 in
set_option maxHeartbeats 4000000 in
theorem checkPat_any (p : P) (a : Option Addr) (cap : Nat) (w : World) (hsz : Tr.size p ≤ 10000) (hsh : Tr.short p = true) (h : PatAt (LT w.heap.size) w p a cap) :
    Calls Tryz.prog 39 #[pv p a cap] w fun e w' => e = .returned (.int .i64 (errOf (Tr.right p))) ∧ Below w.heap.size w w' := by
  have hmm := @run_makeMap Tryz.prog
  refine callsIn_wide (n := 9) |>.1 ?_
  have HE := Lib.hid h; clear h
  have H30 := Lib.hid (fun b w => nodesP_any (.pointer (some ⟨b, 0, none⟩)) (.func (.func 80) #[] #[]) ⟨_, rfl⟩ ⟨_, rfl⟩ w)
  obtain ⟨c, hc⟩ : ∃ c, (#[.int .i64 p.kind, .int .i64 p.frm, .int .i64 p.til, .string ⟨p.nm.toArray⟩, .int .i64 p.num, .string ⟨p.s.toArray⟩, .slice a p.kids.length cap] : Array Value) = c := ⟨_, rfl⟩
  have hbox : ∀ w, (Instr.box 50 (.agg c)).run Tryz.prog w = .ok (.pointer (some ⟨w.heap.size, 0, none⟩)) (w.alloc (.cells c 50)) := by
    intro w; rw [← hc]; rfl
  unfold pv
  rw [hc]
  have HC := Lib.hid hc
  clear hc
  refine callsIn_of_wp_marks Tryz.func39 rfl trivial ?_ rfl
  simp only [Tryz.ntmps39, List.size_toArray, List.length_cons, List.length_nil, Nat.reduceAdd, Nat.reduceSub, Array.replicate_succ, Array.replicate_zero, List.push_toArray, List.append_toArray, List.nil_append, List.cons_append]
  gi_wp2_with (refine ⟨trivial, ?_⟩; gi_at_call 79; refine (callsIn_wide.2 (H30.out _ _)).mono ?_; rintro e w' ⟨rfl, rfl⟩)
  obtain ⟨W4, hW4⟩ : ∃ W4, ((((((w.alloc (.cells c 50)).alloc (.cells #[.int .i64 0] 33)).alloc (.map #[] 0)).alloc (.cells #[.map (some (w.heap.size + 1 + 1))] 82)).alloc (.cells #[.pointer (some ⟨w.heap.size, 0, none⟩)] 73)).alloc (.cells #[.func (.func 80) #[] #[]] 135)) = W4 := ⟨_, rfl⟩
  try rw [hW4]
  have hL : [Obj.cells c 50, .cells #[.int .i64 0] 33, .map #[] 0, .cells #[.map (some (w.heap.size + 1 + 1))] 82, .cells #[.pointer (some ⟨w.heap.size, 0, none⟩)] 73, .cells #[.func (.func 80) #[] #[]] 135].foldl World.alloc w = W4 := hW4
  have hs4 : W4.heap.size = w.heap.size + 6 := by rw [← hL]; exact allocs_size _ _
  have hb4 : Below w.heap.size w W4 := by rw [← hL]; exact allocs_below _ _ (Nat.le_refl _)
  have hx : W4.heap[w.heap.size]? = some (.cells c 50) := by rw [← hL]; exact allocs_get _ w 0 _ rfl
  have hx1 : W4.heap[w.heap.size + 1]? = some (.cells #[.int .i64 0] 33) := by rw [← hL]; exact allocs_get _ w 1 _ rfl
  have hx3 : W4.heap[w.heap.size + 1 + 1 + 1]? = some (.cells #[.map (some (w.heap.size + 1 + 1))] 82) := by rw [← hL]; exact allocs_get _ w 3 _ rfl
  have hx4 : W4.heap[w.heap.size + 1 + 1 + 1 + 1]? = some (.cells #[.pointer (some ⟨w.heap.size, 0, none⟩)] 73) := by rw [← hL]; exact allocs_get _ w 4 _ rfl
  have hx5 : W4.heap[w.heap.size + 1 + 1 + 1 + 1 + 1]? = some (.cells #[.func (.func 80) #[] #[]] 135) := by rw [← hL]; exact allocs_get _ w 5 _ rfl
  have hom : W4.ownsMap Tryz.prog 9 unitElem (w.heap.size + 1 + 1) 0 (txSet []) := by
    have h := World.ownsMap_made (H := Unit) ((w.alloc (.cells c 50)).alloc (.cells #[.int .i64 0] 33)) Tryz.prog 9 unitElem
    rw [World.size_alloc, World.size_alloc] at h
    rw [← hW4]
    exact map_same (map_same (map_same h (Below.heap_alloc _ _ _ (by simp))) (Below.heap_alloc _ _ _ (by simp <;> omega))) (Below.heap_alloc _ _ _ (by simp <;> omega))
  have hpn : PNode (LT (w.heap.size + 1)) W4 p w.heap.size 0 := by
    have h := HE.out.below hb4 (fun _ h => h) (fun b h => (Nat.lt_succ_of_lt h : b < w.heap.size + 1)) (G' := LT (w.heap.size + 1))
    rw [← HC.out] at hx
    exact PNode.mk' h ⟨cell_box hx rfl rfl, cell_box hx rfl rfl, cell_box hx rfl rfl, cell_box hx rfl rfl, cell_box hx rfl rfl, cell_box hx rfl rfl, cell_box hx rfl rfl⟩
  clear hL hW4
  refine wpIn_range_pat (Bt := w.heap.size + 1 + 1 + 1 + 1) (Bk := w.heap.size + 1 + 1 + 1 + 1 + 1) (n := w.heap.size + 1) (b := w.heap.size) (o := 0) (p := p) rfl (by omega)
    ⟨w.heap.size, 0, rfl, Nat.lt_succ_self _, hpn⟩ (by omega) (cell_box hx4 rfl rfl) (cell_box hx5 rfl rfl) rfl
    (fun M pre V => (V.heap[w.heap.size + 1]? = some (.cells #[.int .i64 0] 33) ∧ ¬ M (w.heap.size + 1)) ∧ (V.heap[w.heap.size + 1 + 1 + 1]? = some (.cells #[.map (some (w.heap.size + 1 + 1))] 82) ∧ ¬ M (w.heap.size + 1 + 1 + 1)) ∧
      (V.ownsMap Tryz.prog 9 unitElem (w.heap.size + 1 + 1) (Tr.keyNames (pk pre)).length (txSet (Tr.keyNames (pk pre))) ∧ ¬ M (w.heap.size + 1 + 1)) ∧ Below w.heap.size w V ∧ Tr.goodK (pk pre) = true)
    (fun c M _ V => (V.heap[w.heap.size + 1]? = some (.cells #[.int .i64 1] 33) ∧ ¬ M (w.heap.size + 1)) ∧ Below w.heap.size w V ∧ (c = .ret ∧ Tr.right p = false))
    (fun x a' _ _ => a' = { tmps := #[.agg c, .pointer (some ⟨w.heap.size, 0, none⟩), .pointer (some ⟨w.heap.size + 1, 0, none⟩), .pointer (some ⟨w.heap.size + 1 + 1 + 1, 0, none⟩), .pointer x.p, undef, undef, .map (some (w.heap.size + 1 + 1)), .func (.func 110) #[] #[.pointer (some ⟨w.heap.size + 1 + 1 + 1 + 1, 0, none⟩), .pointer (some ⟨w.heap.size + 1 + 1 + 1 + 1 + 1, 0, none⟩)], .pointer x.p, .int .i64 (x.d : Int), undef, undef, undef, undef, undef, undef, undef, undef, undef, undef, undef, undef, undef, undef, undef, undef, undef, undef, undef, undef, undef, undef, undef, undef, undef, undef], defers := [] })
    (fun s => Ab.and (Ab.block _ _ _) (Ab.and (Ab.block _ _ _) (Ab.and (Ab.map _ _ _ _ _ _ _) (Ab.and (Ab.below hb4.size w (Nat.le_refl _)) (Ab.pure _ _))))) (fun _ _ => Ab.and (Ab.block _ _ _) (Ab.and (Ab.below hb4.size w (Nat.le_refl _)) (Ab.pure _ _))) (fun _ _ => Ab.pure _ _) ⟨⟨hx1, fun h => h⟩, ⟨hx3, fun h => h⟩, ⟨hom, fun h => h⟩, hb4, rfl⟩ ?assign ?body ?done ?stop
  case assign =>
    intro l M pre x V K hi hM hok hpl hK
    clear hx hx1 hx3 hx4 hx5 hom hi hpl hmm
    gi_wp2
    exact hK _ _ (Turns.refl _ _) (by simp [Vi.enc2])
  case body =>
    rintro l M pre x a' V ⟨⟨hr, hrM⟩, ⟨hp, hpM⟩, ⟨hmap, hmM⟩, hbl, hgood⟩ hM hle hok ⟨b, o, hxp, hG, hn⟩ rfl
    obtain ⟨xa, xc, hat, hcs⟩ := hn.pat
    have hshx := at_short hok hsh
    have hlen := pk_len hok
    have hkl : (Tr.keyNames (pk pre)).length ≤ pre.length := by have := keyNames_length (pk pre); rwa [show (pk pre).length = pre.length from List.length_map _] at this
    have hgs := good_snoc pre x
    rw [hgood, Bool.true_and] at hgs
    have hbad := bad_all hok
    have h81 := fun W => rightPat_any x.t xa xc W (by omega) (Nat.le_trans hat.2.1 hat.2.2.1)
    have hrt : V.cell? ⟨w.heap.size + 1, 0, none⟩ = some (.int .i64 0) := cell_box hr rfl rfl
    have hmp : V.cell? ⟨w.heap.size + 1 + 1 + 1, 0, none⟩ = some (.map (some (w.heap.size + 1 + 1))) := cell_box hp rfl rfl
    have hVs : w.heap.size + 6 ≤ V.heap.size := by rw [← hs4]; exact hle
    have hsn : Tr.keyNames (pk (pre ++ [x])) = Tr.keyNames (pk pre) ++ Tr.nameOf x.t := by rw [pk_snoc, Tr.keyNames_append]; simp [Tr.keyNames]
    have hnr : Tr.nr x.t = Tr.nodeRight x.t.kind x.t.num x.t.nm x.t.s x.t.kids.length := rfl
    unfold pv at h81
    obtain ⟨L, hL⟩ : ∃ L, Tr.keyNames (pk pre) = L := ⟨_, rfl⟩
    rw [hL] at hmap hkl hgs hsn
    rw [hnr] at hgs
    unfold Tr.nameOf at hsn
    obtain ⟨g, hg⟩ : ∃ g, Tr.goodK (pk (pre ++ [x])) = g := ⟨_, rfl⟩
    obtain ⟨N, hN⟩ : ∃ N, Tr.keyNames (pk (pre ++ [x])) = N := ⟨_, rfl⟩
    rw [hg] at hgs hbad; rw [hN] at hsn
    have HGG := Lib.hid hg; have HNN := Lib.hid hN
    clear hg hN hnr hL
    obtain ⟨e0, e1, e2, e3, e4, e5, e6⟩ := hcs
    obtain ⟨k, hk⟩ : ∃ k, x.t.kind = k := ⟨_, rfl⟩
    obtain ⟨k1, hk1⟩ : ∃ k, x.t.frm = k := ⟨_, rfl⟩
    obtain ⟨k2, hk2⟩ : ∃ k, x.t.til = k := ⟨_, rfl⟩
    obtain ⟨k3, hk3⟩ : ∃ k, x.t.nm = k := ⟨_, rfl⟩
    obtain ⟨k4, hk4⟩ : ∃ k, x.t.num = k := ⟨_, rfl⟩
    obtain ⟨k5, hk5⟩ : ∃ k, x.t.s = k := ⟨_, rfl⟩
    obtain ⟨k6, hk6⟩ : ∃ k, x.t.kids.length = k := ⟨_, rfl⟩
    rw [hk, hk1, hk2, hk3, hk4, hk5, hk6] at h81
    rw [hk] at e0; rw [hk1] at e1; rw [hk2] at e2; rw [hk3] at e3; rw [hk4] at e4; rw [hk5] at e5; rw [hk6] at e6
    rw [hk, hk3, hk4, hk5, hk6] at hgs; rw [hk, hk3] at hsn; rw [hk3] at hshx
    rw [hxp]
    have hBlt : b < V.heap.size := Nat.lt_of_lt_of_le hG (by omega)
    have hk3b := hshx.1
    have hL5 : L.length ≤ 10000 := by omega
    have HR := Lib.hid hr; have HP := Lib.hid hp; have HMAP := Lib.hid hmap; have HBL := Lib.hid hbl; have HM' := Lib.hid hM; have HRM := Lib.hid hrM; have HPM := Lib.hid hpM; have HMM := Lib.hid hmM; have HGS := Lib.hid hgs; have HBAD := Lib.hid hbad; have H81 := Lib.hid h81; have HSN := Lib.hid hsn; have HVS := Lib.hid hVs; have HL5 := Lib.hid hL5; have HBLT := Lib.hid hBlt; have HK3 := Lib.hid hk3b; have HG' := Lib.hid hG
    have HE0 := Lib.hid e0; have HE3 := Lib.hid e3
    clear hx hx1 hx3 hx4 hx5 hom hmm hpn hr hp hmap hbl hM hle hrM hpM hmM hgs hbad h81 hsn hVs hL5 hBlt hk3b hG hn hat hok hlen hkl hgood hshx hxp hb4 hs4 hk hk1 hk2 hk3 hk4 hk5 hk6
    have hTB : ∀ W', Below V.heap.size V W' → Turns (fun k => w.heap.size + 1 ≤ k ∧ ¬ M k) V W' := fun W' h => ⟨h.os, h.tape, h.output, h.size, fun k hk _ => h.block k hk⟩
    have HTB := Lib.hid hTB; clear hTB
    cases hnr : Tr.nodeRight k k4 k3 k5 k6 with
    | false =>
      have hg0 : g = false := by rw [HGS.out, hnr]; rfl
      have HW := Lib.hid (HBAD.out hg0)
      rw [hnr] at H81
      clear hnr hg0
      gi_wp2_with (refine ⟨trivial, ?_⟩; gi_at_call 81; refine (CallsIn.inRound l (callsIn_wide.2 (H81.out _))).mono ?_; rintro e w1 ⟨rfl, hb1⟩; have hr1 := (hb1.block _ (by have := HVS.out; omega)).trans HR.out; have f1 : w1.frozen? ⟨w.heap.size + 1, 0, none⟩ = false := Boxed.frozen hr1; have c1 : w1.cell? ⟨w.heap.size + 1, 0, none⟩ = some (.int .i64 0) := cell_box hr1 rfl rfl; have HR1 := Lib.hid hr1; have HB1 := Lib.hid hb1; clear hr1 hb1)
      exact ⟨(HTB.out _ HB1.out).trans (Turns.setCell _ _ _ ⟨Nat.le_refl _, HRM.out⟩), ⟨Boxed.set _ HR1.out, HRM.out⟩, (HBL.out.trans (HB1.out.mono HBL.out.size)).setCell (by simp) _, rfl, HW.out⟩
    | true =>
      rw [hnr] at H81
      by_cases h2 : k = 2
      · subst h2
        have hlm : L.length < maxLen := by have := HL5.out; unfold maxLen; omega
        have HLM := Lib.hid hlm
        clear hlm
        obtain ⟨bb, hbb⟩ : ∃ bb, decide (k3 ∈ L) = bb := ⟨_, rfl⟩
        have HBB := Lib.hid hbb
        clear hbb
        gi_wp2_with (refine ⟨trivial, ?_⟩; gi_at_call 81; refine (CallsIn.inRound l (callsIn_wide.2 (H81.out _))).mono ?_; rintro e w1 ⟨rfl, hb1⟩; have hr1 := (hb1.block _ (by have := HVS.out; omega)).trans HR.out; have f1 : w1.frozen? ⟨w.heap.size + 1, 0, none⟩ = false := Boxed.frozen hr1; have c1 : w1.cell? ⟨w.heap.size + 1, 0, none⟩ = some (.int .i64 0) := cell_box hr1 rfl rfl; have c2 : w1.cell? ⟨b, o, none⟩ = some (.int .i64 2) := (hb1.cell (p := ⟨b, o, none⟩) HBLT.out).trans HE0.out; have c3 : w1.cell? ⟨b, o + 3, none⟩ = some (.string ⟨k3.toArray⟩) := (hb1.cell (p := ⟨b, o + 3, none⟩) HBLT.out).trans HE3.out; have hp1 := (hb1.block _ (by have := HVS.out; omega)).trans HP.out; have c4 : w1.cell? ⟨w.heap.size + 1 + 1 + 1, 0, none⟩ = some (.map (some (w.heap.size + 1 + 1))) := cell_box hp1 rfl rfl; have OM1 := Lib.hid (map_same HMAP.out (hb1.block _ (by have := HVS.out; omega))); have hls : w.heap.size + 1 < w1.heap.size := Nat.lt_of_lt_of_le (by have := HVS.out; omega) hb1.size; have HR1 := Lib.hid hr1; have HP1 := Lib.hid hp1; have HB1 := Lib.hid hb1; clear hr1 hb1 hp1)
        have hm : (Tryz.prog).follows .mixedOrders = true := by kernel_rfl
        have hl0 : (Instr.lookup 82 (.map (some (w.heap.size + 1 + 1))) (.string ⟨k3.toArray⟩) true).run Tryz.prog w1.drew = .ok (.tuple #[.agg #[], .bool bb]) w1.drew := by
          have h := tx_look (W := w1.drew) (map_same OM1.out rfl) HK3.out
          rw [HBB.out] at h; exact h
        have hl1 : ∀ o, (Instr.lookup 82 (.map (some (w.heap.size + 1 + 1))) (.string ⟨k3.toArray⟩) true).run Tryz.prog (w1.alloc o).drew = .ok (.tuple #[.agg #[], .bool bb]) (w1.alloc o).drew := by
          intro o
          have h := tx_look (W := (w1.alloc o).drew) (map_same OM1.out (Below.heap_alloc _ _ _ (map_lt OM1.out))) HK3.out
          rw [HBB.out] at h; exact h
        have hb1l : b < w1.heap.size := Nat.lt_of_lt_of_le HBLT.out HB1.out.size
        have hb3l : w.heap.size + 1 + 1 + 1 < w1.heap.size := Nat.lt_of_lt_of_le (by have := HVS.out; omega) HB1.out.size
        refine wpIn_one ?aA1 ?aW1 (fun R hR => ?aF1) ?aR1
        case aF1 =>
          gi_region_with_o fail
          all_goals exact hR
        clear hl0 hl1
        have f1d : ∀ o, (w1.alloc o).drew.frozen? ⟨w.heap.size + 1, 0, none⟩ = false := fun o => Boxed.frozen ((Below.heap_alloc _ _ _ hls).trans HR1.out)
        cases bb with
        | true =>
          have hin : k3 ∈ L := of_decide_eq_true HBB.out
          have hg0 : g = false := by rw [HGS.out]; simp [hin]
          have HW := Lib.hid (HBAD.out hg0)
          clear hnr hg0 hin
          gi_wp2
          exact ⟨(((HTB.out _ HB1.out).trans (Turns.setCell _ _ _ ⟨Nat.le_refl _, HRM.out⟩)).trans (Turns.alloc _ _ _)).trans (Turns.drew _ _), ⟨(Below.heap_alloc _ _ _ (by simpa using hls)).trans (Boxed.set _ HR1.out), HRM.out⟩, (((HBL.out.trans (HB1.out.mono HBL.out.size)).setCell (by simp) _).alloc (by have := Nat.le_trans HBL.out.size HB1.out.size; simpa using this) _).drew, rfl, HW.out⟩
        | false =>
          have hin : k3 ∉ L := of_decide_eq_false HBB.out
          have hg1 : g = true := by rw [HGS.out, hnr]; simp [hin]
          have hN1 : N = L ++ [k3] := by rw [HSN.out]; simp
          have HG1 := Lib.hid hg1; have HN1 := Lib.hid hN1
          clear hnr hg1 hN1 hin
          obtain ⟨w2, hu, HO2, HG2⟩ : ∃ W', (Instr.mapUpdate 82 (.map (some (w.heap.size + 1 + 1))) (.string ⟨k3.toArray⟩) (.agg #[])).run Tryz.prog (w1.alloc (.cells #[] 91)).drew.drew = .ok () W' ∧ W'.ownsMap Tryz.prog 9 unitElem (w.heap.size + 1 + 1) (L.length + 1) (txSet (L ++ [k3])) ∧ (w1.alloc (.cells #[] 91)).drew.drew.grownBy W' (some (w.heap.size + 1 + 1)) := by
            obtain ⟨w', h1, h2, h3⟩ := tx_put (W := (w1.alloc (.cells #[] 91)).drew.drew) (map_same OM1.out (Below.heap_alloc _ _ _ (map_lt OM1.out))) HLM.out HK3.out
            exact ⟨w', h1, h2, h3⟩
          replace HO2 := Lib.hid HO2; replace HG2 := Lib.hid HG2
          gi_wp2
          refine wpIn_end ?aA2 ?aW2 (fun R hR => ?aF2) ?aR2
          case aF2 =>
            gi_region_with_o fail
            all_goals exact hR
          gi_wp2
          have hv := HVS.out
          have hs1 := HB1.out.size
          have e1 : ∀ k, k < V.heap.size → k ≠ w.heap.size + 1 + 1 → w2.heap[k]? = V.heap[k]? := fun k hk hne => (HG2.out.block k (by show k < (w1.alloc _).heap.size; rw [World.size_alloc]; omega) (fun e => hne (by injection e))).trans ((Below.heap_alloc _ _ _ (by omega)).trans (HB1.out.block k hk))
          have hA : Turns (fun k => w.heap.size + 1 ≤ k ∧ ¬ M k) V w2 := ((((HTB.out _ HB1.out).trans (Turns.alloc _ _ _)).trans (Turns.drew _ _)).trans (Turns.drew _ _)).trans (Turns.of_grown HG2.out (fun k e => by injection e with e; subst e; exact ⟨by omega, HMM.out⟩))
          exact ⟨hA, ⟨(e1 _ (by omega) (by omega)).trans HR.out, HRM.out⟩, ⟨(e1 _ (by omega) (by omega)).trans HP.out, HPM.out⟩, ⟨by rw [HNN.out, HN1.out, List.length_append]; exact HO2.out, HMM.out⟩, hA.below HBL.out (fun k h => by omega) HBL.out.size, by rw [HGG.out]; exact HG1.out⟩
      · have h2' : (k != 2) = true := by simp [h2]
        have hg1 : g = true := by rw [HGS.out, hnr, if_neg h2]; rfl
        have hN1 : N = L := by rw [HSN.out, if_neg h2, List.append_nil]
        have HG1 := Lib.hid hg1; have HN1 := Lib.hid hN1
        clear hnr hg1 hN1 h2
        gi_wp2_with (refine ⟨trivial, ?_⟩; gi_at_call 81; refine (CallsIn.inRound l (callsIn_wide.2 (H81.out _))).mono ?_; rintro e w1 ⟨rfl, hb1⟩; have c1 : w1.cell? ⟨b, o, none⟩ = some (.int .i64 k) := (hb1.cell (p := ⟨b, o, none⟩) HBLT.out).trans HE0.out; have HB1 := Lib.hid hb1; clear hb1)
        have hv := HVS.out
        exact ⟨HTB.out _ HB1.out, ⟨(HB1.out.block _ (by omega)).trans HR.out, HRM.out⟩, ⟨(HB1.out.block _ (by omega)).trans HP.out, HPM.out⟩, ⟨by rw [HNN.out, HN1.out]; exact map_same HMAP.out (HB1.out.block _ (by omega)), HMM.out⟩, HBL.out.trans (HB1.out.mono HBL.out.size), by rw [HGG.out]; exact HG1.out⟩
  case done =>
    rintro D M xs V hD hMD hM hS ⟨⟨hr, hrM⟩, _, _, hbl, hgood⟩ hK
    have cr : V.cell? ⟨w.heap.size + 1, 0, none⟩ = some (.int .i64 0) := cell_box hr rfl rfl
    have fr : V.frozen? ⟨w.heap.size + 1, 0, none⟩ = false := Boxed.frozen hr
    have hne : w.heap.size + 1 ≠ D := by omega
    have hK' : (V.setCell ⟨w.heap.size + 1, 0, none⟩ (.int .i64 0)).heap[D]? = some (.deferred (some [])) := (Below.heap_setCell _ _ _ D (fun e => hne e.symm)).trans hK
    have hr' : ((V.setCell ⟨w.heap.size + 1, 0, none⟩ (.int .i64 0)).putObj D (.deferred none)).heap[w.heap.size + 1]? = some (.cells #[.int .i64 0] 33) := (World.putObj_heap_other hne).trans (Boxed.set _ hr)
    have hwo : Tr.right p = true := by
      rw [Tr.right_good, ← hgood]; rw [noAll, Tr.nKeys_shape] at hS; rw [pk, hS]
    have HR' := Lib.hid hr'; have HBL := Lib.hid hbl; have HWO := Lib.hid hwo
    clear hx hx1 hx3 hx4 hx5 hom hmm hpn hr hr' hbl hwo hgood hS
    gi_wp2
    refine ⟨by simp, .inl ⟨_, _, rfl, run_takeDeferred hK', ?_⟩⟩
    have hc5 := cell_box HR'.out rfl (i := 0) rfl
    refine ⟨.int .i64 0, ?_, by rw [HWO.out]; rfl, ?_⟩
    · simp [results, Tryz.f39, go_sem, hc5]
    · exact ((Turns.setCell (M := fun k => w.heap.size ≤ k) V ⟨w.heap.size + 1, 0, none⟩ _ (by simp)).trans (Turns.putObj _ D _ (by omega))).below HBL.out (fun _ h => h) HBL.out.size
  case stop =>
    rintro D M c pre V hD hMD hM ⟨⟨hr, hrM⟩, hbl, rfl, hbad⟩ hK
    have hne : w.heap.size + 1 ≠ D := by omega
    have hr' : (V.putObj D (.deferred none)).heap[w.heap.size + 1]? = some (.cells #[.int .i64 1] 33) := (World.putObj_heap_other hne).trans hr
    have HR' := Lib.hid hr'; have HBL := Lib.hid hbl; have HWO := Lib.hid hbad
    clear hx hx1 hx3 hx4 hx5 hom hmm hpn hr hr' hbl hbad
    gi_wp2
    refine ⟨by simp, .inl ⟨_, _, rfl, run_takeDeferred hK, ?_⟩⟩
    have hc5 := cell_box HR'.out rfl (i := 0) rfl
    refine ⟨.int .i64 1, ?_, by rw [HWO.out]; rfl, ?_⟩
    · simp [results, Tryz.f39, go_sem, hc5]
    · exact (Turns.putObj (M := fun k => w.heap.size ≤ k) _ D _ (by omega)).below HBL.out (fun _ h => h) HBL.out.size
end Go.Proofs.YtmmhpibkjdlkgaaGreat
