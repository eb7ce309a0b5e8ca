/- store.Root: the root of a node; the way there made shorter. -/
import Derived.Test.YtaaapdfdedknfaaStC
namespace Go.Proofs.Ytaaapdfdedknfaa
open Go Go.RowKit
open Tp (T)
open Sg (Of Rt)
/-- A node's way made shorter, in memory. -/
theorem nd_set {B g cap : Nat} {w : World} {G : List SNd} (h : w.ownsRow B 92 6 (.slice (some ⟨g, 0, none⟩) G.length cap) G.length (Sg.ndRow G)) {p : Nat} {d : SNd} (hd : G[p]? = some d) (u : Nat) :
    (w.setCell ⟨g, p * 6 + 4, none⟩ (.int .i64 (u : Int))).ownsRow B 92 6 (.slice (some ⟨g, 0, none⟩) (G.set p { d with up := u }).length cap) (G.set p { d with up := u }).length (Sg.ndRow (G.set p { d with up := u })) := by
  rw [List.length_set, ← Sg.ndRow_set hd (by omega) (show (Sg.ndCells d).set 4 (.int .i64 (u : Int)) = Sg.ndCells { d with up := u } from rfl)]
  exact (h.stored (p * 6 + 4) _).1
/-- A number that a call builds a row of. -/
theorem ints_one (w : World) (x : Int) : IntsAt (w.alloc (.cells #[.int .i64 x] 3)) [x] (some ⟨w.heap.size, 0, none⟩) := fun i hi => by
  obtain rfl : i = 0 := by simp at hi; omega
  exact ⟨_, _, rfl, cell_box (World.alloc_heap_new w _) rfl rfl⟩
theorem okN_nat {m p : Nat} (h : p < m) : [(p : Int)].all (okN m) = true := by unfold okN; simp; omega
section
variable {B s g cap : Nat} {L C K : Int} {w : World} {H : List SNd}
set_option maxRecDepth 100000 in
set_option maxHeartbeats 4000000 in
theorem root12_any (h : SV B s g cap L C K w H) {p : Nat} {d : SNd} (hd : H[p]? = some d) :
    Calls Try.prog 37 #[.pointer (some ⟨s, 0, none⟩), .int .i64 (p : Int)] w fun e w' => e = .returned (.int .i64 (d.up : Int)) ∧ SV B s g cap L C K w' H ∧ Kp w.heap.size (fun k => k = g) w w' := by
  obtain ⟨W1, hW1⟩ : ∃ W, w.alloc (.cells #[.int .i64 (p : Int)] 3) = W := ⟨_, rfl⟩
  have hb1 : Below w.heap.size w W1 := by rw [← hW1]; exact (Below.refl _ _).alloc (Nat.le_refl _) _
  have hk1 : Kp w.heap.size (fun k => k = g) w W1 := .of_below hb1
  have hpl : p < H.length := (List.getElem?_eq_some_iff.1 hd).1
  have h1 := h.below hb1
  have hgs : g < W1.heap.size := h1.far.2.1
  have hhv := have12_any h1 [(p : Int)] (some ⟨w.heap.size, 0, none⟩) 1 (by unfold maxLen; simp) (by rw [← hW1]; exact ints_one w p)
  rw [okN_nat hpl] at hhv
  obtain ⟨G, hO, hown⟩ := h1.row
  obtain ⟨g0, hg, _, n, hr⟩ := hO.get hd
  have hne := h1.far.2.2.2
  have hbox := h1.box
  obtain ⟨N, hL⟩ : ∃ N, H.length = N := ⟨_, rfl⟩
  obtain ⟨r, hr'⟩ : ∃ r, d.up = r := ⟨_, rfl⟩
  rw [hr'] at hr ⊢
  rw [hL] at hbox
  have HO := Lib.hid hO; have HOWN := Lib.hid hown; have HR := Lib.hid hr; have HL := Lib.hid hL; have HNE := Lib.hid hne; have HHV := Lib.hid hhv; have HW1 := Lib.hid hW1; have HBOX := Lib.hid hbox; have HK1 := Lib.hid hk1; have HLO := Lib.hid h.lo; have HGS := Lib.hid hgs
  clear hO hown hr h hL hd hg hr' hne hb1 h1 hhv hW1 hpl hbox hk1 hgs
  go_enter Try.func37, Try.ntmps37
  go_upto_region 1 with fail
  go_wp2_with fail
  rw [HW1.out]
  refine HHV.out.mono ?_
  rintro e w2 ⟨rfl, rfl⟩
  go_upto_region 3 with fail
  go_loopg [1] n (fun gk v wr => ∃ (G : List SNd) (p : Nat), v = .int .i64 (p : Int) ∧ Of G H ∧ Rt G gk p r ∧ wr.ownsRow B 92 6 (.slice (some ⟨g, 0, none⟩) G.length cap) G.length (Sg.ndRow G) ∧ Turns (fun k => k = g) w2 wr)
  case atStart => exact ⟨G, p, rfl, HO.out, HR.out, HOWN.out, Turns.refl _ _⟩
  case round =>
    obtain ⟨G, p, rfl, hO, hr, hown, ht⟩ := hrel
    have cb : wr.cell? ⟨s, 2, none⟩ = some (.slice (some ⟨g, 0, none⟩) N cap) := cell_box (ht.heap HBOX.out HNE.out) rfl rfl
    have hGL : G.length = N := hO.len.trans HL.out
    obtain ⟨e, he⟩ : ∃ e, G[p]? = some e := by
      cases gk with
      | zero => obtain ⟨_, e, h1, _⟩ := hr; exact ⟨e, h1⟩
      | succ k => obtain ⟨e, h1, _⟩ := hr; exact ⟨e, h1⟩
    have hpl : p < N := by rw [← hGL]; exact (List.getElem?_eq_some_iff.1 he).1
    obtain ⟨q0, q1⟩ := pt_int hpl
    obtain ⟨_, _, _, _, cp, _⟩ := nd_cells hown he
    obtain ⟨q, hq⟩ : ∃ q, e.up = q := ⟨_, rfl⟩
    rw [hq] at cp
    have HO2 := Lib.hid hO; have HR2 := Lib.hid hr; have HOWN2 := Lib.hid hown; have HT2 := Lib.hid ht; have HE := Lib.hid he; have HQ := Lib.hid hq; have HGL2 := Lib.hid hGL
    clear hO hr hown ht he hGL hq HO HR HOWN
    by_cases hqp : q = p
    · subst hqp
      have hrq : r = q := by
        have h1 := HR2.out
        cases gk with
        | zero => exact h1.1
        | succ k => obtain ⟨e', h2, h3, _⟩ := h1; rw [HE.out] at h2; injection h2 with h2; subst h2; exact absurd HQ.out h3
      subst hrq
      go_wp2_with fail
      go_ret
      refine ⟨rfl, ⟨⟨G, HO2.out, HOWN2.out⟩, by rw [HL.out]; exact HT2.out.heap HBOX.out HNE.out, HLO.out⟩, HK1.out.trans (Kp.of_turns HT2.out ?_ (fun _ h => h))⟩
      exact HK1.out.size
    · obtain ⟨e2, he2, hnx⟩ : ∃ e2, G[q]? = some e2 ∧ ∃ m, m < gk ∧ Rt (G.set p { e with up := e2.up }) m e2.up r := by
        have h1 := HR2.out
        cases gk with
        | zero => obtain ⟨_, e', h2, h3⟩ := h1; rw [HE.out] at h2; injection h2 with h2; subst h2; exact absurd (HQ.out.symm.trans h3) hqp
        | succ k =>
          obtain ⟨e', h2, h3, h4⟩ := id h1
          rw [HE.out] at h2; injection h2 with h2; subst h2
          have h5 : ∃ e2, G[e.up]? = some e2 := by
            cases k with
            | zero => obtain ⟨_, x, hx, _⟩ := h4; exact ⟨x, hx⟩
            | succ j => obtain ⟨x, hx, _⟩ := h4; exact ⟨x, hx⟩
          obtain ⟨e2, h6⟩ := h5
          rw [HQ.out] at h6
          exact ⟨e2, h6, Rt.next HE.out HQ.out hqp h6 h1⟩
      have hql : q < N := by rw [← HGL2.out]; exact (List.getElem?_eq_some_iff.1 he2).1
      obtain ⟨t0, t1⟩ := pt_int hql
      obtain ⟨_, _, _, _, cq, _⟩ := nd_cells HOWN2.out he2
      obtain ⟨u, hu⟩ : ∃ u, e2.up = u := ⟨_, rfl⟩
      rw [hu] at cq hnx
      have hne : ((q : Int) == (p : Int)) = false := by simp; omega
      have hne' : ((q : Int) != (p : Int)) = true := by simp; omega
      have fp : wr.frozen? ⟨g, p * 6 + 4, none⟩ = false := HOWN2.out.frozenAt _
      have HE2 := Lib.hid he2; have HU := Lib.hid hu; have HNX := Lib.hid hnx; have HQP := Lib.hid hqp
      clear he2 hu hnx hqp
      go_upto_region 4 with fail
      have hO3 := HO2.out.halve HE.out HQ.out HQP.out HE2.out
      have hown3 := nd_set HOWN2.out HE.out e2.up
      rw [HU.out] at hO3 hown3
      have hg3 := (HOWN2.out.stored (p * 6 + 4) (.int .i64 (u : Int))).2
      obtain ⟨V, hV⟩ : ∃ V, wr.setCell ⟨g, p * 6 + 4, none⟩ (.int .i64 (u : Int)) = V := ⟨_, rfl⟩
      rw [hV] at hown3 hg3
      have ht3 : Turns (fun k => k = g) w2 V := HT2.out.trans (Turns.of_grown hg3 (by rintro k ⟨⟩; rfl))
      have cb3 : V.cell? ⟨s, 2, none⟩ = some (.slice (some ⟨g, 0, none⟩) N cap) := cell_box (ht3.heap HBOX.out HNE.out) rfl rfl
      have cp3 : V.cell? ⟨g, p * 6 + 4, none⟩ = some (.int .i64 (u : Int)) := (nd_cells hown3 (Sg.set_same HE.out)).2.2.2.2.1
      have HO3 := Lib.hid hO3; have HOWN3 := Lib.hid hown3; have HT3 := Lib.hid ht3; have HV := Lib.hid hV; have CB3 := Lib.hid cb3; have CP3 := Lib.hid cp3
      clear hO3 hown3 hg3 hV ht3 cb3 cp3
      go_region_law (fail)
      all_goals
        rw [HV.out]
        have cb3 := CB3.out; have cp3 := CP3.out
        clear cb cp cq fp t0 t1 hne hne'
        obtain ⟨m', hm', hr'⟩ := HNX.out
        go_wp2_with fail
        go_roundg m'
        case measure => exact hm'
        case rel => exact ⟨_, u, rfl, HO3.out, hr', HOWN3.out, HT3.out.trans (Turns.drew _ _)⟩
end
end Go.Proofs.Ytaaapdfdedknfaa
