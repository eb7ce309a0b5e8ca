/- slices.Clone of a row of numbers; store.Kids. -/
import Derived.Test.YteolbbgnkbcfmaaStB
import Derived.Test.YteolbbgnkbcfmaaStQ
import Derived.Lib.SliceRun
namespace Go.Proofs.Yteolbbgnkbcfmaa
open Go Go.RowKit Go.Shelf
open Sg (Of Rt Alk rootOf kidsOf)
def intRow (l : List Int) : List Value := l.map fun x => Value.int .i64 x
theorem intRow_at {l : List Int} {j : Nat} {u : Value} (h : (intRow l)[j]? = some u) : ∃ hj : j < l.length, u = .int .i64 l[j] := by
  unfold intRow at h
  rw [List.getElem?_map] at h
  cases hl : l[j]? with
  | none => rw [hl] at h; cases h
  | some x =>
    rw [hl] at h
    obtain ⟨hj, e⟩ := List.getElem?_eq_some_iff.1 hl
    exact ⟨hj, by rw [e]; injection h with h; exact h.symm⟩
/-- A row of numbers of the call's own. -/
def IRow (n : Nat) (l : List Int) (w : World) (a : Option Addr) : Prop := IntsAt w l a ∧ ∀ b o, a = some ⟨b, o, none⟩ → n ≤ b ∧ b < w.heap.size
theorem IRow.keep {n : Nat} {l : List Int} {w w' : World} {a : Option Addr} (h : IRow n l w a) (hs : ∀ b, n ≤ b → b < w.heap.size → w'.heap[b]? = w.heap[b]?) (hz : w.heap.size ≤ w'.heap.size) : IRow n l w' a :=
  ⟨fun i hi => by
    obtain ⟨b, o, e, hc⟩ := h.1 i hi
    obtain ⟨q1, q2⟩ := h.2 b o e
    exact ⟨b, o, e, (World.cell?_of_block (a := ⟨b, o + i, none⟩) (hs b q1 q2)).trans hc⟩, fun b o e => ⟨(h.2 b o e).1, by have := (h.2 b o e).2; omega⟩⟩
def ClP (l : List Int) (w : World) (e : Ending) (w' : World) : Prop := ∃ a c, e = .returned (.slice a l.length c) ∧ IRow w.heap.size l w' a ∧ Below w.heap.size w w'
set_option maxHeartbeats 2000000 in
set_option maxRecDepth 100000 in
theorem cloneI_any (l : List Int) (hl2 : l.length ≤ 2) (g o c : Nat) (w : World) (hc : ∀ i (hi : i < l.length), w.cell? ⟨g, o + i, none⟩ = some (.int .i64 l[i])) :
    Calls Try.prog 102 #[.slice (some ⟨g, o, none⟩) l.length c] w (ClP l w) := by
  obtain ⟨i0, hi, hz0, hz1, hz2⟩ := info_parts info_int
  have hnews : ∀ j u, (intRow l)[j]? = some u → (w.alloc (.cells #[] 3)).cell? ((⟨g, o, none⟩ : Addr).add j) = some u := fun j u hu => by
    obtain ⟨hj, rfl⟩ := intRow_at hu
    rw [add_flat]
    have h1 := hc j hj
    exact (World.cell?_of_block (a := ⟨g, o + j, none⟩) (Below.heap_alloc _ _ _ (cell_lt h1))).trans h1
  have hlen : (intRow l).length = l.length * 1 := by simp [intRow]
  have hone : ∀ u ∈ intRow l, u.oneCell' = true := fun u hu => by
    unfold intRow at hu
    obtain ⟨x, _, rfl⟩ := List.mem_map.1 hu
    rfl
  obtain ⟨n, hn⟩ : ∃ n, l.length = n := ⟨_, rfl⟩
  rw [hn] at hlen hl2
  have HLN := Lib.hid hn; have HC := Lib.hid hnews; have HLEN := Lib.hid hlen; have HONE := Lib.hid hone
  have HB1 := Lib.hid (show 0 + n ≤ maxLen by unfold maxLen; omega); have HB2 := Lib.hid (show (0 + n) * 8 ≤ 140737488355328 by omega)
  unfold ClP
  rw [hn]
  clear hn hnews hlen hone hl2 hc
  have hq := fun w => Lib.run_eql_slice_nil (P := Try.prog) w 27 _ (some ⟨g, o, none⟩) n c 0 0 Try.underlying27
  go_enter Try.func102, Try.ntmps102
  go_wp2_with (at_builtin; refine wpList_append_own _ rfl _ _ 27 rfl w.heap.size 3 i0 (.int .i64 0) 1 8 Try.underlying27 hi hz0 hz1 hz2 rfl (by decide) _ 0 [] rfl (World.ownsRow_made w #[] 0 (Nat.le_refl _) (Nat.zero_le _) (by simp)) ⟨g, o, none⟩ n c (intRow l) rfl HLEN.out HC.out HONE.out HB1.out HB2.out (by simp) ?_; intro v' w1 hown hgrow hnil)
  go_ret
  have hown2 : w1.ownsRow w.heap.size 3 1 v' n (intRow l) := by simpa using hown
  obtain ⟨a, cc, rfl⟩ := own_shapeN hown2
  have hgr : Below w.heap.size w w1 := by
    refine ((Below.refl _ w).alloc (Nat.le_refl _) _).grown hgrow (by simp) ?_
    intro k hk
    have hk' : some w.heap.size = some k := hk
    injection hk' with hk'
    omega
  refine ⟨a, cc, rfl, ⟨fun i hi => ?_, fun b oo e => ?_⟩, hgr⟩
  · rcases hown2.2 with ⟨h1, h2⟩ | ⟨gg, cap, cur, h1, h2, h3, _⟩
    · rw [HLN.out] at hi; omega
    · injection h1 with h1
      subst h1
      have := hown2.cells (g := gg) rfl i (.int .i64 l[i]) (by unfold intRow; rw [List.getElem?_map, List.getElem?_eq_getElem hi]; rfl)
      rw [add_flat, Nat.zero_add] at this
      exact ⟨gg, 0, rfl, by rw [Nat.zero_add]; exact this⟩
  · rcases hown2.2 with ⟨h1, h2⟩ | ⟨gg, cap, cur, h1, h2, h3, _⟩
    · injection h1 with h1; rw [h1] at e; cases e
    · injection h1 with h1
      rw [h1] at e
      injection e with e
      injection e with e1 e2
      subst e1
      exact ⟨h2, (Array.getElem?_eq_some_iff.1 h3).1⟩
section
variable {B s g cap : Nat} {L C K : Int} {w : World} {H : List SNd}
/-- What Kids hands back. -/
def KiP (B s g cap : Nat) (L C K : Int) (H : List SNd) (l : List Int) (w : World) (e : Ending) (w' : World) : Prop := ∃ a c, e = .returned (.slice a l.length c) ∧ IRow w.heap.size l w' a ∧ SV B s g cap L C K w' H ∧ Kp w.heap.size (fun k => k = g) w w'
set_option maxRecDepth 100000 in
set_option maxHeartbeats 2000000 in
theorem skids12_any (h : SV B s g cap L C K w H) {p : Nat} {d r : SNd} (hd : H[p]? = some d) (hr : H[d.up]? = some r) :
    Calls Try.prog 45 #[.pointer (some ⟨s, 0, none⟩), .int .i64 (p : Int)] w (KiP B s g cap L C K H (kidL r.c.kind r.c.a r.c.b) w) := by
  have hpl := (List.getElem?_eq_some_iff.1 hd).1
  have hroot := fun x (hx : SV B s g cap L C K x H) => root12_any hx hd
  have hki := fun x (hx : SV B s g cap L C K x H) => kids12_any hx hr
  obtain ⟨q, hq⟩ : ∃ q, d.up = q := ⟨_, rfl⟩
  rw [hq] at hr hroot hki
  have HN := Lib.hid hr; have HRT := Lib.hid hroot; have HKI := Lib.hid hki
  clear hr hroot hq hki
  obtain ⟨W1, hW1⟩ : ∃ W, w.alloc (.cells #[.int .i64 (p : Int)] 3) = W := ⟨_, rfl⟩
  have hb1 : Below w.heap.size w W1 := by rw [← hW1]; exact (Below.refl _ _).alloc (Nat.le_refl _) _
  have h1 := h.below hb1
  have hhv := have12_any h1 [(p : Int)] (some ⟨w.heap.size, 0, none⟩) 1 (by unfold maxLen; simp) (by rw [← hW1]; exact ints_one w (p : Int))
  rw [okN_nat hpl] at hhv
  have HHV := Lib.hid hhv; have HW1 := Lib.hid hW1; have HB1 := Lib.hid hb1; have HSV := Lib.hid h1
  clear hhv hW1 hb1 h1 h
  go_enter Try.func45, Try.ntmps45
  go_upto_region 1 with fail
  go_wp2_with fail
  rw [HW1.out]
  refine HHV.out.mono ?_
  rintro e w2 ⟨rfl, rfl⟩
  go_wp2_with fail
  refine (HRT.out _ HSV.out).mono ?_
  rintro e w3 ⟨rfl, hsv, hk⟩
  have S3 := Lib.hid hsv; have K3 := Lib.hid ((Kp.of_below HB1.out).trans (hk.mono HB1.out.size (fun _ _ h => h)))
  clear hsv hk
  go_wp2_with fail
  refine (HKI.out _ S3.out).mono ?_
  rintro e w4 ⟨rfl, hb⟩
  have S4 := Lib.hid (S3.out.below hb); have K4 := Lib.hid (K3.out.trans ((Kp.of_below hb).mono K3.out.size (fun _ _ h => h)))
  have hz4 := Nat.le_trans K3.out.size hb.size
  clear hb
  obtain ⟨G, hO, hown⟩ := S4.out.row
  obtain ⟨_, _, n3, n4, _⟩ := S4.out.node HN.out
  have hcl := cloneI_any (kidL r.c.kind r.c.a r.c.b) (by rw [kidL_len]; have := ar_le r.c.kind; omega) g (q * 6 + 2) 2 w4 (fun i hi => by
    have h2 : i < 2 := by rw [kidL_len] at hi; have := ar_le r.c.kind; omega
    match i, h2 with
    | 0, _ => rw [show (kidL r.c.kind r.c.a r.c.b)[0] = r.c.a by simp [kidL]]; exact n3
    | 1, _ => rw [show (kidL r.c.kind r.c.a r.c.b)[1] = r.c.b by simp [kidL]]; exact n4)
  have hll := kidL_len r.c.kind r.c.a r.c.b
  obtain ⟨l, hl⟩ : ∃ l, kidL r.c.kind r.c.a r.c.b = l := ⟨_, rfl⟩
  rw [hl] at hcl hll ⊢
  rw [hll] at hcl
  have HCL := Lib.hid hcl; have HZ4 := Lib.hid hz4; have HLL := Lib.hid hll; have HL := Lib.hid hl
  clear hcl hz4 hll hl n3 n4 hO hown
  go_wp2_with fail
  refine HCL.out.mono ?_
  rintro e w5 ⟨a5, c5, rfl, hir, hb⟩
  have hsv5 := S4.out.below hb
  have HIR := Lib.hid hir; have S5 := Lib.hid hsv5; have K5 := Lib.hid (K4.out.trans ((Kp.of_below hb).mono HZ4.out (fun _ _ h => h)))
  clear hir hsv5 hb
  go_wp2_with fail
  go_ret
  exact ⟨a5, c5, by rw [HL.out, HLL.out]; rfl, ⟨by rw [HL.out]; exact HIR.out.1, fun b o e => ⟨Nat.le_trans HZ4.out (HIR.out.2 b o e).1, (HIR.out.2 b o e).2⟩⟩, S5.out, K5.out⟩
end
end Go.Proofs.Yteolbbgnkbcfmaa
