/- scheme.graph.finite: no node within itself. -/
import Derived.Test.YtncdbbjkafgphaaUgW
import Derived.Laws.OwnMore
namespace Go.Proofs.Ytncdbbjkafgphaa
open Go Go.RowKit
open Tp (T)
open Ug (Of Rt)
def natRow (A : List Nat) : List Value := A.map fun (a : Nat) => .int .i64 (a : Int)
theorem natRow_len (A : List Nat) : (natRow A).length = A.length := by simp [natRow]
theorem natRow_at {A : List Nat} {i a : Nat} (h : A[i]? = some a) : (natRow A)[i]? = some (.int .i64 (a : Int)) := by simp [natRow, h]
theorem natRow_set (A : List Nat) (i a : Nat) : (natRow A).set i (.int .i64 (a : Int)) = natRow (A.set i a) := by simp [natRow, List.map_set]
theorem natRow_snoc (A : List Nat) (a : Nat) : natRow (A ++ [a]) = natRow A ++ [.int .i64 (a : Int)] := by simp [natRow]
theorem info_in1 : (Try.prog.info? 3).map (fun i => (i.zero, i.size, i.bytes)) = some (some (.int .i64 0), 1, 8) := by kernel_rfl
theorem elem_in : Try.prog.underlying 46 = some (.slice (Try.prog.elem 46)) := by kernel_rfl
theorem size_in1 (w : World) : (sizeOf (Try.prog.elem 46)).run Try.prog w = .ok 1 w := by kernel_rfl
theorem in_pop (g n cap k : Nat) (hk : k ≤ n) (hn : n ≤ cap) (w' : World) :
    (Instr.slice 46 (.slice (some ⟨g, 0, none⟩) n cap) none (some (.int .i64 (k : Int))) none).run Try.prog w' = .ok (.slice (some ⟨g, 0, none⟩) k cap) w' := by
  rw [run_slice_h w' _ _ n cap elem_in .i64 (k : Int) (by omega) (by omega), size_in1]
  simp [Result.andThen, sliced, add_flat]
theorem b8u {r : Nat} (h : r ≤ 4 * 1000000) : (r + 1) * 8 ≤ 140737488355328 ∧ r + 1 ≤ maxLen := by unfold maxLen; omega
theorem w64_succ {k : Nat} (h : k ≤ 4 * 1000000) : wrap64 ((k : Int) + 1) = ((k + 1 : Nat) : Int) := by unfold wrap64; omega
theorem wrapk5 {k : Nat} (h : k ≤ 4 * 1000000) : Value.int .i64 (wrap64 ((k : Int) + 1)) = .int .i64 ((k + 1 : Nat) : Int) := by rw [w64_succ h]
theorem w64_pred {k : Nat} (h : k ≤ 4 * 1000000) (h0 : 0 < k) : wrap64 ((k : Int) - 1) = ((k - 1 : Nat) : Int) := by unfold wrap64; omega
/-- The graph, and how often each node is below others. -/
structure FnS (B gb : Nat) (m v : Value) (H : List GNd) (L ab : Nat) (w : World) (A : List Nat) (wr : World) : Prop where
  gv : GV B gb m v wr H
  row : wr.ownsRow w.heap.size 3 1 (.slice (some ⟨ab, 0, none⟩) L L) L (natRow A)
  keep : Kp w.heap.size (fun z => v.ownBlock = some z) w wr
theorem FnS.alloc {B gb : Nat} {m v : Value} {H : List GNd} {L ab : Nat} {w : World} {A : List Nat} {wr : World} (h : FnS B gb m v H L ab w A wr) (o : Obj) : FnS B gb m v H L ab w A (wr.alloc o) :=
  ⟨h.gv.same (Below.heap_alloc _ _ _ (Array.getElem?_eq_some_iff.1 h.gv.box).1) (fun z hz => by obtain ⟨G, _, hown⟩ := h.gv.row; exact Below.heap_alloc _ _ _ (hown.lt z hz).2), h.row.alloc o, h.keep.alloc h.keep.size o⟩
theorem FnS.turns {B gb rb cap : Nat} {m : Value} {H : List GNd} {L ab : Nat} {w : World} {A : List Nat} {wr w' : World} (h : FnS B gb m (.slice (some ⟨rb, 0, none⟩) L cap) H L ab w A wr) (hr : rb < w.heap.size) (hg : GV B gb m (.slice (some ⟨rb, 0, none⟩) L cap) w' H) (ht : Turns (fun k => k = rb) wr w') : FnS B gb m (.slice (some ⟨rb, 0, none⟩) L cap) H L ab w A w' :=
  ⟨hg, own_same h.row (fun z hz => ht.block z (h.row.lt z hz).2 (by have := (h.row.lt z hz).1; omega)), h.keep.trans (Kp.of_turns ht h.keep.size (fun k hk => by rw [hk]; rfl))⟩
theorem FnS.set {B gb : Nat} {m v : Value} {H : List GNd} {L ab : Nat} {w : World} {A : List Nat} {wr : World} (h : FnS B gb m v H L ab w A wr) (hgb : gb < w.heap.size) (hv : ∀ z, v.ownBlock = some z → z < w.heap.size) (i x : Nat) : FnS B gb m v H L ab w (A.set i x) (wr.setCell ⟨ab, i, none⟩ (.int .i64 (x : Int))) := by
  have hab := (h.row.lt ab rfl).1
  refine ⟨h.gv.same (Below.heap_setCell _ _ _ _ (by show gb ≠ ab; omega)) (fun z hz => Below.heap_setCell _ _ _ _ (by have := hv z hz; show z ≠ ab; omega)), ?_, h.keep.setCell (.inl hab) _⟩
  rw [← natRow_set]; exact (h.row.stored i _).1
theorem FnS.cell {B gb : Nat} {m v : Value} {H : List GNd} {L ab : Nat} {w : World} {A : List Nat} {wr : World} (h : FnS B gb m v H L ab w A wr) {i a : Nat} (ha : A[i]? = some a) : wr.cell? ⟨ab, i, none⟩ = some (.int .i64 (a : Int)) ∧ wr.frozen? ⟨ab, i, none⟩ = false := by
  have := h.row.cells (g := ab) rfl i _ (natRow_at ha)
  rw [add_flat, Nat.zero_add] at this
  exact ⟨this, h.row.frozenAt _⟩
theorem FnS.drew {B gb : Nat} {m v : Value} {H : List GNd} {L ab : Nat} {w : World} {A : List Nat} {wr : World} (h : FnS B gb m v H L ab w A wr) : FnS B gb m v H L ab w A wr.drew := ⟨h.gv.same rfl (fun _ _ => rfl), h.row, h.keep.drew⟩
/-- Whoever stands for itself in memory does so in the graph. -/
theorem gv_self {B gb rb cap L : Nat} {m : Value} {w : World} {H : List GNd} (h : GV B gb m (.slice (some ⟨rb, 0, none⟩) L cap) w H) (hL : H.length = L) {p : Nat} {d : GNd} (hd : H[p]? = some d) :
    ∃ u : Nat, w.cell? ⟨rb, p * 4 + 3, none⟩ = some (.int .i64 (u : Int)) ∧ (u = p ↔ d.up = p) := by
  subst hL
  obtain ⟨G, hO, hown⟩ := h.row
  rw [← hO.len] at hown
  obtain ⟨g, hg, _⟩ := hO.get hd
  exact ⟨g.up, (nd_cells hown hg).2.2.2, hO.self hg hd⟩
theorem ein_le {H : List GNd} {M : Nat} (hw : Ug.Wf H M) (r p : Nat) : Ug.ein H r p ≤ 2 := by
  unfold Ug.ein
  cases h : H[p]? with
  | none => exact Nat.zero_le _
  | some d =>
    obtain ⟨_, _, h3, _⟩ := hw.kids p d h
    have h4 := arity_le d.kind
    exact Nat.le_trans (Ug.cnt_le H r d.lo (d.hi - d.lo)) (by omega)
theorem esum_le {H : List GNd} {M : Nat} (hw : Ug.Wf H M) (r : Nat) : ∀ L : List Nat, Ug.esum H r L ≤ 2 * L.length
  | [] => by simp [Ug.esum]
  | p :: L => by
    have h1 := esum_le hw r L
    have h2 := ein_le hw r p
    show Ug.ein H r p + Ug.esum H r L ≤ 2 * (L.length + 1)
    omega
theorem ownL_le (H : List GNd) (P : Nat) : (Ug.ownL H P).length ≤ P := by
  unfold Ug.ownL
  exact Nat.le_trans (List.length_filter_le _ _) (by simp)
theorem cti_le {H : List GNd} {M P j a r : Nat} {d : GNd} {A : List Nat} (hw : Ug.Wf H M) (h : Ug.CtI H P d j A) (hj : j ≤ 2) (hP : P ≤ 1000000) (ha : A[r]? = some a) : a ≤ 4 * 1000000 := by
  have h1 := h.cn r a ha
  have h2 := esum_le hw r (Ug.ownL H P)
  have h3 := ownL_le H P
  have h4 := Ug.cnt_le H r d.lo j
  omega
theorem own_topI {w : World} {base : Nat} {v : Value} {O : List Nat} {r : Nat} (h : w.ownsRow base 3 1 v (O.length + 1) (natRow (r :: O).reverse)) :
    ∃ g cap, v = .slice (some ⟨g, 0, none⟩) (O.length + 1) cap ∧ base ≤ g ∧ g < w.heap.size ∧ O.length + 1 ≤ cap ∧ cap ≤ maxLen ∧ w.cell? ⟨g, O.length, none⟩ = some (.int .i64 (r : Int)) ∧ w.ownsRow base 3 1 (.slice (some ⟨g, 0, none⟩) O.length cap) O.length (natRow O.reverse) := by
  rw [List.reverse_cons, natRow_snoc] at h
  obtain ⟨h1, h2 | ⟨g, cap, cur, h3, h4, h5, h6, h7, h8, h9⟩⟩ := id h
  · omega
  · subst h3
    have hlen := natRow_len O.reverse
    rw [List.length_reverse] at hlen
    have hc := h.cells (g := g) rfl
    refine ⟨g, cap, rfl, h4, (Array.getElem?_eq_some_iff.1 h5).1, h6, h7, ?_, own_take h (Nat.le_succ _) (by rw [hlen, Nat.mul_one])⟩
    have := hc O.length (.int .i64 (r : Int)) (by rw [← hlen, List.getElem?_append_right (Nat.le_refl _), Nat.sub_self]; rfl)
    rwa [add_flat, Nat.zero_add] at this
set_option maxRecDepth 100000 in
theorem append_int {w : World} {ops : Array Oper} {rest : List Oper} {o : Oper} {act : Act} {Q : Exit → Act → World → Prop} (hgd : o.guard = none) (s x : Operand)
    (ho : o.op = .call { callee := .builtin .append, args := #[s, x], argTypes := #[46, 46] })
    (base : Nat) (v : Value) (k : Nat) (O : List Nat) (hs : act.eval s = v) (hown : w.ownsRow base 3 1 v k (natRow O)) (p hb : Nat) (hx : act.eval x = .slice (some ⟨hb, 0, none⟩) 1 1) (hc : w.heap[hb]? = some (.cells #[.int .i64 (p : Int)] 3))
    (hlen : k ≤ 4 * 1000000) (hbase : base ≤ w.heap.size)
    (h : ∀ g cap w', w'.ownsRow base 3 1 (.slice (some ⟨g, 0, none⟩) (k + 1) cap) (k + 1) (natRow (O ++ [p])) → w.grownBy w' v.ownBlock → (v.ownBlock = some g ∨ g = w.heap.size) → wpList Try.prog ops Q rest (act.put o.dst (.slice (some ⟨g, 0, none⟩) (k + 1) cap)) w') : wpList Try.prog ops Q (o :: rest) act w := by
  obtain ⟨i0, hi, hz0, hz1, hz2⟩ := info_parts info_in1
  obtain ⟨b1, b2⟩ := b8u hlen
  refine wpList_plain hgd fun K hK => ?_
  refine wp_append_lies w s x 46 ho base 3 i0 (.int .i64 0) 1 8 Try.underlying46 hi hz0 hz1 hz2 rfl (by decide) v k (natRow O) hs hown ⟨hb, 0, none⟩ 1 1 [.int .i64 (p : Int)] hx rfl ?_ (by intro u hu; rw [List.mem_singleton.1 hu]; rfl) (by decide) b2 b1 hbase w.heap.size rfl fun g cap w' h1 h2 h3 _ => hK _ _ (h g cap w' (by rw [natRow_snoc]; exact h1) h2 h3)
  intro j u hu
  match j with
  | 0 => injection hu with hu; subst hu; rw [add_flat]; exact cell_box hc rfl rfl
  | j + 1 => simp at hu
/-- A stack of places of the call's own, behind an append onto it. -/
theorem FnS.grown {B gb : Nat} {m v : Value} {H : List GNd} {L ab : Nat} {w : World} {A : List Nat} {wr w7 : World} {row : Option Nat} (h : FnS B gb m v H L ab w A wr) (hgb : gb < w.heap.size) (hv : ∀ z, v.ownBlock = some z → z < w.heap.size) (hg : wr.grownBy w7 row) (hr : ∀ z, row = some z → w.heap.size ≤ z ∧ z ≠ ab) : FnS B gb m v H L ab w A w7 := by
  have hs := h.keep.size
  refine ⟨h.gv.same (hg.block gb (by omega) (fun e => by have := (hr gb e.symm).1; omega)) (fun z hz => hg.block z (by have := hv z hz; omega) (fun e => by have := (hr z e.symm).1; have := hv z hz; omega)), own_same h.row (fun z hz => hg.block z (h.row.lt z hz).2 (fun e => by injection hz with hz; exact (hr z e.symm).2 hz.symm)), h.keep.grown hg hs (fun z hz => .inl (hr z hz).1)⟩
theorem nodup_len : ∀ (n : Nat) (O : List Nat), O.Nodup → (∀ x ∈ O, x < n) → O.length ≤ n
  | 0, O, _, h => by
    cases O with
    | nil => simp
    | cons a O => have := h a (by simp); omega
  | n + 1, O, hn, h => by
    have h1 := nodup_len n (O.erase n) (hn.erase n) (fun x hx => by
      have h2 := (List.Nodup.mem_erase_iff hn).1 hx
      have h3 := h x h2.2
      have := h2.1
      omega)
    have h4 : O.length ≤ (O.erase n).length + 1 := by
      by_cases hm : n ∈ O
      · rw [List.length_erase_of_mem hm]; omega
      · rw [List.erase_of_not_mem hm]; omega
    omega
theorem own_lt {H : List GNd} {r : Nat} (h : Ug.own H r = true) : r < H.length := by
  obtain ⟨d, hd, _⟩ := Ug.own_iff.1 h
  exact (List.getElem?_eq_some_iff.1 hd).1
theorem kni_len {H : List GNd} {d : GNd} {r0 j st : Nat} {A O D : List Nat} (h : Ug.KnI H d r0 j A st O D) : O.length ≤ H.length := nodup_len _ O h.on (fun x hx => own_lt (h.o1 x hx).1)
theorem kni_a {H : List GNd} {M : Nat} (hw : Ug.Wf H M) {d : GNd} {r0 j st a r : Nat} {A O D : List Nat} (h : Ug.KnI H d r0 j A st O D) (hd : d.hi - d.lo ≤ 2) (hL : H.length ≤ 1000000) (ha : A[r]? = some a) : a ≤ 4 * 1000000 := by
  have h1 := h.cn r a ha
  have h2 := esum_le hw r (Ug.rest H D)
  have h3 : (Ug.rest H D).length ≤ H.length := by
    unfold Ug.rest
    exact Nat.le_trans (List.length_filter_le _ _) (ownL_le H H.length)
  have h4 := Ug.cnt_le H r (d.lo + j) (d.hi - d.lo - j)
  omega
def FiPost (v : Value) (H : List GNd) (w : World) (e : Ending) (w' : World) : Prop := ∃ b, e = .returned (.bool b) ∧ (b = true ↔ ∃ f, Ug.Good f ∧ Ug.Sol H f) ∧ Kp w.heap.size (fun z => v.ownBlock = some z) w w'
set_option maxRecDepth 100000 in
set_option maxHeartbeats 8000000 in
theorem finite_any (B gb rb cap : Nat) (m : Value) (H : List GNd) (w : World) (h : GV B gb m (.slice (some ⟨rb, 0, none⟩) H.length cap) w H) (hw : Ug.Wf H H.length) (hc : Ug.Cong H []) (hl : H.length ≤ 1000000) (hpos : 0 < H.length) :
    Calls Try.prog 42 #[.pointer (some ⟨gb, 0, none⟩)] w (FiPost (.slice (some ⟨rb, 0, none⟩) H.length cap) H w) := by
  obtain ⟨G, rb', cap', hv, hO, hown, hrl, hrs, hne⟩ := gv_open h hpos
  injection hv with hv1 hv2 hv3
  injection hv1 with hv1
  injection hv1 with hv1
  subst hv1 hv3
  have hgs : gb < w.heap.size := (Array.getElem?_eq_some_iff.1 h.box).1
  have HWF := Lib.hid hw; have HCG := Lib.hid hc
  obtain ⟨L, hL⟩ : ∃ L, H.length = L := ⟨_, rfl⟩
  rw [hL] at hl h hpos ⊢
  obtain ⟨i0, hi, hz0, hz1, hz2⟩ := info_parts info_in1
  obtain ⟨W1, hmk, hown1, hg1⟩ := run_make_full (P := Try.prog) w w.heap.size 46 3 i0 (.int .i64 0) 1 Try.underlying46 hi hz0 hz1 .i64 .i64 L (by rw [hz2]; omega) (by unfold maxLen; omega) (Nat.le_refl _)
  have hst : FnS B gb m (.slice (some ⟨rb, 0, none⟩) L cap) H L w.heap.size w (List.replicate H.length 0) W1 := by
    have hkp : Kp w.heap.size (fun z => (Value.slice (some ⟨rb, 0, none⟩) L cap).ownBlock = some z) w W1 := (Kp.refl _ _ _).grown hg1 (Nat.le_refl _) (fun k h => by cases h)
    refine ⟨h.same (hg1.block gb hgs (by simp)) (by rintro z ⟨⟩; exact hg1.block rb hrs (by simp)), ?_, hkp⟩
    have e : (madeCells (Value.int .i64 0).cells (L * 1)).toList = natRow (List.replicate H.length 0) := by
      rw [Nat.mul_one, show (Value.int .i64 0).cells = #[.int .i64 0] from rfl, toList_madeCells_one, hL]
      simp [natRow]
    rw [← e]; exact hown1
  have hct := Ug.Ct.start H
  have cb : w.cell? ⟨gb, 0, none⟩ = some (.slice (some ⟨rb, 0, none⟩) L cap) := cell_box h.box rfl rfl
  have HST := Lib.hid hst; have HCT := Lib.hid hct; have HL := Lib.hid hL; have HRL := Lib.hid hrl; have HRS := Lib.hid hrs; have HNE := Lib.hid hne; have HGS := Lib.hid hgs; have HLL := Lib.hid hl
  have cb1 : W1.cell? ⟨gb, 0, none⟩ = some (.slice (some ⟨rb, 0, none⟩) L cap) := cell_box hst.gv.box rfl rfl
  clear hst hct hL hrl hrs hne hgs hO hown h hw hc hl hown1 hg1 hpos hi hz0 hz1 hz2
  go_enter Try.func42, Try.ntmps42
  go_wp2_with fail
  clear cb cb1 hmk
  go_loopg [4, 26] L (fun gk v4 v26 wr => ∃ (P st : Nat) (A : List Nat), v4 = .int .i64 (st : Int) ∧ v26 = .int .i64 (P : Int) ∧ P ≤ L ∧ st ≤ P ∧ Ug.Ct H P A st ∧ FnS B gb m (.slice (some ⟨rb, 0, none⟩) L cap) H L w.heap.size w A wr ∧ gk = L - P)
  case atStart => exact ⟨0, 0, _, rfl, rfl, Nat.zero_le _, Nat.zero_le _, HCT.out, HST.out, rfl⟩
  case round =>
    obtain ⟨P, st, A, rfl, rfl, hPL, hstP, hct, hfs, rfl⟩ := hrel
    have HCT := Lib.hid hct; have HFS := Lib.hid hfs
    clear hct hfs HST
    by_cases hlt : P < L
    · obtain ⟨d, hd⟩ : ∃ d, H[P]? = some d := ⟨_, List.getElem?_eq_getElem (by rw [HL.out]; exact hlt)⟩
      obtain ⟨d0, d1, d2, _⟩ := gv_node HFS.out.gv HL.out hd
      obtain ⟨u, du, hself⟩ := gv_self HFS.out.gv HL.out hd
      obtain ⟨p0, p1⟩ := pt_int hlt
      have hP10 : P ≤ 1000000 := Nat.le_trans hPL HLL.out
      have hx2 : (wr.alloc (.cells #[.int .i64 d.kind, .int .i64 (d.lo : Int), .int .i64 (d.hi : Int), .int .i64 (u : Int)] 88)).heap[wr.heap.size]? = some (.cells #[.int .i64 d.kind, .int .i64 (d.lo : Int), .int .i64 (d.hi : Int), .int .i64 (u : Int)] 88) := World.alloc_heap_new _ _
      have hfs2 := HFS.out.alloc (.cells #[.int .i64 d.kind, .int .i64 (d.lo : Int), .int .i64 (d.hi : Int), .int .i64 (u : Int)] 88)
      have HD := Lib.hid hd; have HSELF := Lib.hid hself; have HX2 := Lib.hid hx2; have HFS2 := Lib.hid hfs2; have HP10 := Lib.hid hP10
      have HNB := Lib.hid (show w.heap.size ≤ wr.heap.size from HFS.out.keep.size)
      clear hd hself hx2 hfs2 hP10
      by_cases hu : u = P
      · have gu : ((u : Int) == (P : Int)) = true := by simp [hu]
        have HUP := Lib.hid (HSELF.out.1 hu)
        have hw1 : wrap64 ((st : Int) + 1) = ((st + 1 : Nat) : Int) := w64_succ (Nat.le_trans hstP (Nat.le_trans HP10.out (by decide)))
        obtain ⟨st1, hst1⟩ : ∃ s, st + 1 = s := ⟨_, rfl⟩
        rw [hst1] at hw1
        have HST1 := Lib.hid hst1; have HW1 := Lib.hid hw1
        clear hu hst1 hw1
        have hK2 : d.hi - d.lo ≤ 2 := by have h1 := (HWF.out.kids P d HD.out).2.2.1; have h2 := arity_le d.kind; omega
        have hlo := (HWF.out.kids P d HD.out).1
        have hhi := (HWF.out.kids P d HD.out).2.1
        rw [HL.out] at hhi
        have HK2 := Lib.hid hK2; have HLO := Lib.hid hlo; have HHI := Lib.hid hhi
        clear hK2 hlo hhi
        go_wp2_with fail
        rw [HW1.out]
        obtain ⟨nb, hnb⟩ : ∃ n, wr.heap.size = n := ⟨_, rfl⟩
        rw [hnb] at HX2 HNB ⊢
        clear hnb
        go_loopg [7] (d.hi - d.lo) (fun gk v7 wx => ∃ (j kk : Nat) (A' : List Nat), v7 = .int .i64 (kk : Int) ∧ d.lo + j = kk ∧ j ≤ d.hi - d.lo ∧ Ug.CtI H P d j A' ∧ FnS B gb m (.slice (some ⟨rb, 0, none⟩) L cap) H L w.heap.size w A' wx ∧ wx.heap[nb]? = some (.cells #[.int .i64 d.kind, .int .i64 (d.lo : Int), .int .i64 (d.hi : Int), .int .i64 (u : Int)] 88) ∧ gk = d.hi - d.lo - j)
        case atStart => exact ⟨0, d.lo, A, rfl, rfl, Nat.zero_le _, HCT.out.open d, HFS2.out, HX2.out, rfl⟩
        case round =>
          obtain ⟨j, kk, A', rfl, hkk, hj, hci, hfs, hbx, rfl⟩ := hrel
          have HKK := Lib.hid hkk; clear hkk
          have HCI := Lib.hid hci; have HFS3 := Lib.hid hfs; have HBX := Lib.hid hbx
          have n2 := cell_box (i := 2) hbx rfl rfl
          clear hci hfs hbx
          by_cases hjl : j < d.hi - d.lo
          · have hkd : kk < d.hi := by have := HKK.out; omega
            have hkL : kk < L := Nat.lt_of_lt_of_le hkd HHI.out
            obtain ⟨q0, q1⟩ := pt_int hkd
            obtain ⟨e, he⟩ : ∃ e, H[kk]? = some e := ⟨_, List.getElem?_eq_getElem (by rw [HL.out]; exact hkL)⟩
            obtain ⟨f, hf, _⟩ := HWF.out.top _ e he
            have hful : e.up < L := by rw [← HL.out]; exact (List.getElem?_eq_some_iff.1 hf).1
            obtain ⟨a, ha⟩ : ∃ a, A'[e.up]? = some a := ⟨_, List.getElem?_eq_getElem (by rw [HCI.out.al, HL.out]; exact hful)⟩
            have ha4 := cti_le HWF.out HCI.out (Nat.le_trans hj HK2.out) HP10.out ha
            have hst2 := HCI.out.step (a := a) (by rw [HKK.out, Ug.rep_at he]; exact ha)
            rw [HKK.out, Ug.rep_at he] at hst2
            have hgv := HFS3.out.gv
            obtain ⟨r0, r1⟩ := pt_int hful
            have hcall := find_any B gb rb cap m H kk e wr (by rw [HL.out]; exact hgv) he
            rw [HL.out] at hcall
            have hw2 : wrap64 ((a : Int) + 1) = ((a + 1 : Nat) : Int) := w64_succ ha4
            have HCALL := Lib.hid hcall; have HST2 := Lib.hid hst2; have HA := Lib.hid ha
            have HNBL := Lib.hid (show nb ≠ rb by have := HNB.out; have := HRS.out; omega)
            have HNAB := Lib.hid (show nb ≠ w.heap.size from fun x => own_ne HFS3.out.row (x ▸ HBX.out) (by decide) rfl)
            clear hcall hst2 ha hgv ha4 he hf
            go_wp2_with (go_at_call 63; refine HCALL.out.mono ?_; clear n2; rintro e9 w9 ⟨rfl, hgv9, ht9⟩; have hfs9 := HFS3.out.turns HRS.out hgv9 ht9; obtain ⟨ca9, fa9⟩ := hfs9.cell HA.out; have hb9 := ht9.heap HBX.out HNBL.out; have HFS9 := Lib.hid hfs9; have HB9 := Lib.hid hb9; clear hgv9 ht9 hfs9 hb9)
            have hfs8 := HFS9.out.set HGS.out (by rintro z ⟨⟩; exact HRS.out) e.up (a + 1)
            have hb8 := (Below.heap_setCell w9 ⟨w.heap.size, e.up, none⟩ (.int .i64 ((a + 1 : Nat) : Int)) nb HNAB.out).trans HB9.out
            go_roundg (d.hi - d.lo - (j + 1))
            case measure => omega
            case rel => exact ⟨j + 1, kk + 1, _, wrapk5 (Nat.le_trans (Nat.le_of_lt hkL) (Nat.le_trans HLL.out (by decide))), by rw [← HKK.out]; rfl, hjl, HST2.out, hfs8, hb8, rfl⟩
          · obtain rfl : j = d.hi - d.lo := by omega
            have hcl := Ug.CtI.close HCT.out HD.out HUP.out HCI.out
            have HCL := Lib.hid hcl
            obtain rfl : kk = d.hi := by have := HLO.out; have := HKK.out; omega
            clear hcl
            go_wp2_with fail
            go_roundg (L - (P + 1))
            case measure => omega
            case rel => exact ⟨P + 1, st1, _, rfl, wrapk5 (Nat.le_trans HP10.out (by decide)), hlt, by have := HST1.out; omega, HST1.out ▸ HCL.out, HFS3.out, rfl⟩
      · have gu : ((u : Int) == (P : Int)) = false := by simp; omega
        have hnx := HCT.out.skip HD.out (fun e => hu (HSELF.out.2 e))
        have HNX := Lib.hid hnx
        clear hu hnx
        go_wp2_with fail
        go_roundg (L - (P + 1))
        case measure => omega
        case rel => exact ⟨P + 1, st, A, rfl, wrapk5 (Nat.le_trans HP10.out (by decide)), hlt, by omega, HNX.out, HFS2.out, rfl⟩
    · obtain rfl : L = P := by omega
      have cb : wr.cell? ⟨gb, 0, none⟩ = some (.slice (some ⟨rb, 0, none⟩) L cap) := cell_box HFS.out.gv.box rfl rfl
      go_wp2_with fail
      clear cb
      have HSTP := Lib.hid hstP; clear hstP hPL hlt
      go_loopg [8, 59] L (fun gk v8 v59 wx => ∃ P : Nat, v59 = .int .i64 (P : Int) ∧ P ≤ L ∧ FnS B gb m (.slice (some ⟨rb, 0, none⟩) L cap) H L w.heap.size w A wx ∧ wx.ownsRow w.heap.size 3 1 v8 (Ug.zeros H A P).length (natRow (Ug.zeros H A P).reverse) ∧ v8.ownBlock ≠ some w.heap.size ∧ gk = L - P)
      case atStart => exact ⟨0, rfl, Nat.zero_le _, HFS.out, World.ownsRow_nil _ _ _ _, by simp [Value.ownBlock], rfl⟩
      case round =>
        obtain ⟨P, rfl, hPL, hfs, hrow, hnab, rfl⟩ := hrel
        obtain ⟨oa, oc, rfl⟩ := own_shapeT hrow
        obtain ⟨zl, hzl⟩ : ∃ z, (Ug.zeros H A P).length = z := ⟨_, rfl⟩
        rw [hzl] at hrow hnab ⊢
        have HFS3 := Lib.hid hfs; have HROW := Lib.hid hrow; have HNAB := Lib.hid hnab; have HZL := Lib.hid hzl
        clear hfs hrow hnab hzl HFS
        by_cases hlt : P < L
        · obtain ⟨d, hd⟩ : ∃ d, H[P]? = some d := ⟨_, List.getElem?_eq_getElem (by rw [HL.out]; exact hlt)⟩
          obtain ⟨d0, d1, d2, _⟩ := gv_node HFS3.out.gv HL.out hd
          obtain ⟨u, du, hself⟩ := gv_self HFS3.out.gv HL.out hd
          obtain ⟨p0, p1⟩ := pt_int hlt
          have hP10 : P ≤ 1000000 := Nat.le_trans hPL HLL.out
          obtain ⟨a, ha⟩ : ∃ a, A[P]? = some a := ⟨_, List.getElem?_eq_getElem (by rw [HCT.out.al, HL.out]; exact hlt)⟩
          have hfs2 := HFS3.out.alloc (.cells #[.int .i64 d.kind, .int .i64 (d.lo : Int), .int .i64 (d.hi : Int), .int .i64 (u : Int)] 88)
          obtain ⟨ca, _⟩ := hfs2.cell ha
          have hrow2 := HROW.out.alloc (.cells #[.int .i64 d.kind, .int .i64 (d.lo : Int), .int .i64 (d.hi : Int), .int .i64 (u : Int)] 88)
          have hown : Ug.own H P = true ↔ u = P := by rw [Ug.own_iff]; exact ⟨fun ⟨e, he, hu⟩ => by rw [hd] at he; injection he with he; subst he; exact hself.2 hu, fun hu => ⟨d, hd, hself.1 hu⟩⟩
          have HOWN := Lib.hid hown; have HFS2 := Lib.hid hfs2; have HROW2 := Lib.hid hrow2; have HP10 := Lib.hid hP10; have HA := Lib.hid ha
          clear hd hself hfs2 hP10 ha hrow2 hown
          have hzs := Ug.zeros_succ H A P
          have hx2 : (wr.alloc (.cells #[.int .i64 d.kind, .int .i64 (d.lo : Int), .int .i64 (d.hi : Int), .int .i64 (u : Int)] 88)).heap[wr.heap.size]? = some (.cells #[.int .i64 d.kind, .int .i64 (d.lo : Int), .int .i64 (d.hi : Int), .int .i64 (u : Int)] 88) := World.alloc_heap_new _ _
          by_cases hu : u = P
          · have gu : ((u : Int) == (P : Int)) = true := by simp [hu]
            by_cases ha0 : a = 0
            · have ga : ((a : Int) == 0) = true := by simp [ha0]
              rw [if_pos ⟨HOWN.out.2 hu, by rw [HA.out, ha0]⟩] at hzs
              have HZS := Lib.hid hzs
              clear hu ha0 hzs
              go_upto_region 18 with fail
              have hWx := HFS2.out.alloc (.cells #[.int .i64 (P : Int)] 3)
              have hRx := HROW2.out.alloc (.cells #[.int .i64 (P : Int)] 3)
              have hcx : ((wr.alloc (.cells #[.int .i64 d.kind, .int .i64 (d.lo : Int), .int .i64 (d.hi : Int), .int .i64 (u : Int)] 88)).alloc (.cells #[.int .i64 (P : Int)] 3)).heap[wr.heap.size + 1]? = some (.cells #[.int .i64 (P : Int)] 3) := box2 _ _ _ _ _
              have HWX := Lib.hid hWx; have HRX := Lib.hid hRx; have HCX := Lib.hid hcx
              have HNW := Lib.hid (Nat.le_trans HFS3.out.keep.size (show wr.heap.size ≤ ((wr.alloc (.cells #[.int .i64 d.kind, .int .i64 (d.lo : Int), .int .i64 (d.hi : Int), .int .i64 (u : Int)] 88)).alloc (.cells #[.int .i64 (P : Int)] 3)).heap.size by rw [World.size_alloc, World.size_alloc]; omega))
              have HZ4 := Lib.hid (show zl ≤ 4 * 1000000 by have h1 := Ug.zeros_len H A P; rw [HZL.out] at h1; exact Nat.le_trans h1 (Nat.le_trans HP10.out (by decide)))
              clear hWx hRx hcx hx2 ca
              go_wp2_with (at_builtin; refine append_int rfl _ _ rfl w.heap.size (.slice oa zl oc) zl (Ug.zeros H A P).reverse rfl HRX.out P (wr.heap.size + 1) rfl HCX.out HZ4.out HNW.out ?_; intro g cp w7 hown7 hg7 hl7; have HOWN7 := Lib.hid hown7; have HG7 := Lib.hid hg7; have HL7 := Lib.hid hl7; clear hown7 hg7 hl7)
              have hlt0 := HROW.out.lt
              have HLT0 := Lib.hid hlt0; clear hlt0
              go_roundg (L - (P + 1))
              case measure => omega
              case rel =>
                refine ⟨P + 1, wrapk5 (Nat.le_trans HP10.out (by decide)), hlt, HWX.out.grown HGS.out (by rintro z ⟨⟩; exact HRS.out) HG7.out (fun z hz => ⟨(HLT0.out z hz).1, fun e => HNAB.out (e ▸ hz)⟩), ?_, ?_, rfl⟩
                · rw [HZS.out, List.length_append, List.length_singleton, List.reverse_append, List.reverse_singleton, HZL.out, Nat.add_comm 1 zl]; exact HOWN7.out
                · intro h
                  injection h with h
                  dsimp only at h
                  rcases HL7.out with h7 | h7
                  · exact HNAB.out (h ▸ h7)
                  · exact absurd (h.symm.trans h7) (by have h8 := HFS3.out.keep.size; rw [World.size_alloc, World.size_alloc]; omega)
            · have ga : ((a : Int) == 0) = false := by simp; omega
              rw [if_neg (fun h => ha0 (by have := h.2; rw [HA.out] at this; exact Option.some.inj this))] at hzs
              have HZS := Lib.hid hzs
              clear hu ha0 hzs
              go_wp2_with fail
              go_roundg (L - (P + 1))
              case measure => omega
              case rel => exact ⟨P + 1, wrapk5 (Nat.le_trans HP10.out (by decide)), hlt, HFS2.out, by rw [HZS.out, List.nil_append, HZL.out]; exact HROW2.out, HNAB.out, rfl⟩
          · have gu : ((u : Int) == (P : Int)) = false := by simp; omega
            rw [if_neg (fun h => hu (HOWN.out.1 h.1))] at hzs
            have HZS := Lib.hid hzs
            clear hu hzs
            go_wp2_with fail
            go_roundg (L - (P + 1))
            case measure => omega
            case rel => exact ⟨P + 1, wrapk5 (Nat.le_trans HP10.out (by decide)), hlt, HFS2.out, by rw [HZS.out, List.nil_append, HZL.out]; exact HROW2.out, HNAB.out, rfl⟩
        · obtain rfl : L = P := by omega
          go_wp2_with fail
          have hkn := Ug.Kn.start (H := H) (A := A) (st := st) (by rw [HL.out]; exact HCT.out)
          rw [HL.out] at hkn
          have HKN := Lib.hid hkn
          clear hkn hlt hPL
          go_loopg [4, 8] st (fun gk v4 v8 wx => ∃ A O D, v4 = .int .i64 (gk : Int) ∧ gk ≤ L ∧ Ug.Kn H A gk O D ∧ FnS B gb m (.slice (some ⟨rb, 0, none⟩) L cap) H L w.heap.size w A wx ∧ wx.ownsRow w.heap.size 3 1 v8 O.length (natRow O.reverse) ∧ v8.ownBlock ≠ some w.heap.size)
          case atStart => exact ⟨A, _, [], rfl, HSTP.out, HKN.out, HFS3.out, by rw [HZL.out]; exact HROW.out, HNAB.out⟩
          case round =>
            obtain ⟨A, O, D, rfl, hst, hkn, hfs, hrow, hnab⟩ := hrel
            have HST3 := Lib.hid hst; have HKN := Lib.hid hkn; have HFS := Lib.hid hfs
            clear hst hkn hfs HFS3 HROW HNAB
            cases O with
            | nil =>
              obtain ⟨oa, oc, rfl⟩ := own_shapeT hrow
              clear hrow hnab
              by_cases h0 : gk = 0
              · have g0 : ((gk : Int) == 0) = true := by simp [h0]
                subst h0
                have HY := Lib.hid (HKN.out.yes HWF.out HCG.out)
                go_wp2_with fail
                go_ret
                exact ⟨true, rfl, ⟨fun _ => HY.out, fun _ => rfl⟩, HFS.out.keep⟩
              · have g0 : ((gk : Int) == 0) = false := by simp; omega
                have HY := Lib.hid (HKN.out.no HWF.out h0)
                clear h0
                go_wp2_with fail
                go_ret
                exact ⟨false, rfl, ⟨(fun h => by cases h), fun ⟨f, _, hf⟩ => absurd hf (HY.out f)⟩, HFS.out.keep⟩
            | cons r O =>
              obtain ⟨g, cap3, rfl, hg1, hg2, hcp, hcm, hx0, hrow2⟩ := own_topI (v := u8) hrow
              obtain ⟨ol, hol⟩ : ∃ z, O.length = z := ⟨_, rfl⟩
              rw [hol] at hx0 hrow2 hcp hnab ⊢
              obtain ⟨d, hd, hdu⟩ := Ug.own_iff.1 (HKN.out.o1 r (by simp)).1
              obtain ⟨hpos, hki⟩ := HKN.out.pop hd
              obtain ⟨d0, d1, d2, _⟩ := gv_node HFS.out.gv HL.out hd
              obtain ⟨u, du, _⟩ := gv_self HFS.out.gv HL.out hd
              have hrL : r < L := by rw [← HL.out]; exact (List.getElem?_eq_some_iff.1 hd).1
              obtain ⟨p0, p1⟩ := pt_int hrL
              obtain ⟨i1, i2⟩ := pt_int (Nat.lt_succ_self ol)
              have i3 : (ol : Int) < (ol : Int) + 1 := Int.lt_succ _
              have hwr : wrap64 (ol : Int) = (ol : Int) := by unfold wrap64; unfold maxLen at hcm; omega
              have hpop := in_pop g (ol + 1) cap3 ol (by omega) hcp
              have cb : wr.cell? ⟨gb, 0, none⟩ = some (.slice (some ⟨rb, 0, none⟩) L cap) := cell_box HFS.out.gv.box rfl rfl
              have hx2 : (wr.alloc (.cells #[.int .i64 d.kind, .int .i64 (d.lo : Int), .int .i64 (d.hi : Int), .int .i64 (u : Int)] 88)).heap[wr.heap.size]? = some (.cells #[.int .i64 d.kind, .int .i64 (d.lo : Int), .int .i64 (d.hi : Int), .int .i64 (u : Int)] 88) := World.alloc_heap_new _ _
              have hfs2 := HFS.out.alloc (.cells #[.int .i64 d.kind, .int .i64 (d.lo : Int), .int .i64 (d.hi : Int), .int .i64 (u : Int)] 88)
              have hrow3 := hrow2.alloc (.cells #[.int .i64 d.kind, .int .i64 (d.lo : Int), .int .i64 (d.hi : Int), .int .i64 (u : Int)] 88)
              have hK2 : d.hi - d.lo ≤ 2 := by have h1 := (HWF.out.kids r d hd).2.2.1; have h2 := arity_le d.kind; omega
              have hlo := (HWF.out.kids r d hd).1
              have hhi := (HWF.out.kids r d hd).2.1
              rw [HL.out] at hhi
              have HK2 := Lib.hid hK2; have HLO := Lib.hid hlo; have HHI := Lib.hid hhi; have HD := Lib.hid hd; have HKI := Lib.hid hki; have HX2 := Lib.hid hx2; have HFS2 := Lib.hid hfs2; have HROW3 := Lib.hid hrow3; have HNAB := Lib.hid hnab; have HOL := Lib.hid hol; have HPOS := Lib.hid hpos
              have HNB := Lib.hid (show w.heap.size ≤ wr.heap.size from HFS.out.keep.size)
              clear hK2 hlo hhi hd hki hx2 hfs2 hrow3 hnab hol hdu hrow hrow2 hg1 hcm hrL
              have hrb9 : rb < wr.heap.size := Nat.lt_of_lt_of_le HRS.out HNB.out
              have hgb9 : gb < wr.heap.size := Nat.lt_of_lt_of_le HGS.out HNB.out
              have HWR := Lib.hid hwr; clear hwr
              go_upto_region 22 with fail
              rw [HWR.out]
              go_cut [12] (fun v12 wx => v12 = .pointer (some ⟨wr.heap.size, 0, none⟩) ∧ wx = (wr.alloc (.cells #[.int .i64 d.kind, .int .i64 (d.lo : Int), .int .i64 (d.hi : Int), .int .i64 (u : Int)] 88)).drew)
              case first =>
                go_region_law (fail)
                all_goals
                  go_wp2_with fail
                  go_meet
                  exact ⟨rfl, rfl⟩
              case rest =>
                obtain ⟨rfl, hwc⟩ := hcut
                have hfs4 : FnS B gb m (.slice (some ⟨rb, 0, none⟩) L cap) H L w.heap.size w A wc := by rw [hwc]; exact HFS2.out.drew
                have hrow4 : wc.ownsRow w.heap.size 3 1 (.slice (some ⟨g, 0, none⟩) ol cap3) ol (natRow O.reverse) := by rw [hwc]; exact HROW3.out
                have hx4 : wc.heap[wr.heap.size]? = some (.cells #[.int .i64 d.kind, .int .i64 (d.lo : Int), .int .i64 (d.hi : Int), .int .i64 (u : Int)] 88) := by rw [hwc]; exact HX2.out
                have n1 := cell_box (i := 1) hx4 rfl rfl
                have HFS4 := Lib.hid hfs4; have HROW4 := Lib.hid hrow4; have HX4 := Lib.hid hx4
                have hw1 : wrap64 ((gk : Int) - 1) = ((gk - 1 : Nat) : Int) := w64_pred (Nat.le_trans HST3.out (Nat.le_trans HLL.out (by decide))) HPOS.out
                obtain ⟨g1, hg1⟩ : ∃ s, gk - 1 = s := ⟨_, rfl⟩
                rw [hg1] at hw1 HKI
                have HG1 := Lib.hid hg1
                have HW1 := Lib.hid hw1
                clear hfs4 hrow4 hx4 hwc d0 d1 d2 du cb hx0 p0 p1 i1 i2 i3 hg2 hrb9 hgb9 hw1 hg1
                go_wp2_with fail
                rw [HW1.out]
                clear n1
                obtain ⟨nb, hnb⟩ : ∃ n, wr.heap.size = n := ⟨_, rfl⟩
                rw [hnb] at HX4 HNB ⊢
                clear hnb
                go_loopg [8, 13] (d.hi - d.lo) (fun gk v8 v13 wx => ∃ (j kk : Nat) (A' O' : List Nat), v13 = .int .i64 (kk : Int) ∧ d.lo + j = kk ∧ j ≤ d.hi - d.lo ∧ Ug.KnI H d r j A' g1 O' (r :: D) ∧ FnS B gb m (.slice (some ⟨rb, 0, none⟩) L cap) H L w.heap.size w A' wx ∧ wx.ownsRow w.heap.size 3 1 v8 O'.length (natRow O'.reverse) ∧ v8.ownBlock ≠ some w.heap.size ∧
                  wx.heap[nb]? = some (.cells #[.int .i64 d.kind, .int .i64 (d.lo : Int), .int .i64 (d.hi : Int), .int .i64 (u : Int)] 88) ∧ gk = d.hi - d.lo - j)
                case atStart => exact ⟨0, d.lo, A, O, rfl, rfl, Nat.zero_le _, HKI.out, HFS4.out, by rw [HOL.out]; exact HROW4.out, HNAB.out, HX4.out, rfl⟩
                case round =>
                  obtain ⟨j, kk, A', O', rfl, hkk, hj, hki, hfs, hrow, hnab, hbx, rfl⟩ := hrel
                  obtain ⟨oa, oc, rfl⟩ := own_shapeT hrow
                  have HKK := Lib.hid hkk; have HKJ := Lib.hid hki; have HFS5 := Lib.hid hfs; have HBX := Lib.hid hbx; have HROW5 := Lib.hid hrow; have HNAB5 := Lib.hid hnab
                  have n2 := cell_box (i := 2) hbx rfl rfl
                  clear hkk hki hfs hbx hrow hnab
                  by_cases hjl : j < d.hi - d.lo
                  · have hkd : kk < d.hi := by have := HKK.out; omega
                    have hkL : kk < L := Nat.lt_of_lt_of_le hkd HHI.out
                    obtain ⟨q0, q1⟩ := pt_int hkd
                    obtain ⟨e, he⟩ : ∃ e, H[kk]? = some e := ⟨_, List.getElem?_eq_getElem (by rw [HL.out]; exact hkL)⟩
                    obtain ⟨f, hf, hf1, _⟩ := HWF.out.top _ e he
                    have hful : e.up < L := by rw [← HL.out]; exact (List.getElem?_eq_some_iff.1 hf).1
                    obtain ⟨a, ha⟩ : ∃ a, A'[e.up]? = some a := ⟨_, List.getElem?_eq_getElem (by rw [HKJ.out.al, HL.out]; exact hful)⟩
                    have ha4 := kni_a HWF.out HKJ.out HK2.out (by rw [HL.out]; exact HLL.out) ha
                    obtain ⟨hapos, hst2⟩ := HKJ.out.step (e := e) HD.out hjl (by rw [HKK.out]; exact he) (fun f2 h2 => by rw [hf] at h2; injection h2 with h2; rw [← h2]; exact hf1) ha
                    have hgv := HFS5.out.gv
                    obtain ⟨r0, r1⟩ := pt_int hful
                    have hcall := find_any B gb rb cap m H kk e wr (by rw [HL.out]; exact hgv) he
                    rw [HL.out] at hcall
                    have hw2 : wrap64 ((a : Int) - 1) = ((a - 1 : Nat) : Int) := w64_pred ha4 hapos
                    obtain ⟨a1, ha1⟩ : ∃ s, a - 1 = s := ⟨_, rfl⟩
                    rw [ha1] at hw2 hst2
                    have HCALL := Lib.hid hcall; have HST2 := Lib.hid hst2; have HA := Lib.hid ha; have HEUP := Lib.hid hful
                    have HNBL := Lib.hid (show nb ≠ rb by have := HNB.out; have := HRS.out; omega)
                    have HNAB := Lib.hid (show nb ≠ w.heap.size from fun x => own_ne HFS5.out.row (x ▸ HBX.out) (by decide) rfl)
                    have hol := kni_len HKJ.out
                    obtain ⟨ol', hol'⟩ : ∃ z, O'.length = z := ⟨_, rfl⟩
                    rw [hol'] at HROW5 HNAB5 hol ⊢
                    have HOL4 := Lib.hid (show ol' ≤ 4 * 1000000 from Nat.le_trans hol (by rw [HL.out]; exact Nat.le_trans HLL.out (by decide)))
                    have HOL' := Lib.hid hol'
                    have HOG := Lib.hid (show ∀ z, (Value.slice oa ol' oc).ownBlock = some z → w.heap.size ≤ z ∧ z < wr.heap.size from HROW5.out.lt)
                    clear hcall hst2 ha hgv ha4 he hf hol hol' hapos ha1
                    have HGET := Lib.hid (List.getElem?_set_self (l := A') (a := a1) (by have := (List.getElem?_eq_some_iff.1 HA.out).1; exact this))
                    by_cases h0 : a1 = 0
                    · have ga : ((a1 : Int) == 0) = true := by simp [h0]
                      rw [if_pos h0] at HST2
                      clear h0
                      go_upto_region 31 with (go_at_call 63; refine HCALL.out.mono ?_; clear n2; rintro e9 w9 ⟨rfl, hgv9, ht9⟩; have hfs9 := HFS5.out.turns HRS.out hgv9 ht9; obtain ⟨ca9, fa9⟩ := hfs9.cell HA.out; have hb9 := ht9.heap HBX.out HNBL.out; have hr9 := own_same HROW5.out (fun z hz => ht9.block z (HOG.out z hz).2 (by have h1 := (HOG.out z hz).1; have h2 := HRS.out; omega)); have hs9 := hfs9.set HGS.out (by rintro z ⟨⟩; exact HRS.out) e.up a1; obtain ⟨cb9, _⟩ := hs9.cell HGET.out; have HFS9 := Lib.hid hs9; have HB9 := Lib.hid hb9; have HR9 := Lib.hid hr9; clear hgv9 ht9 hfs9 hb9 hr9 hs9)
                      obtain ⟨W8, hW8⟩ : ∃ W, w9.setCell ⟨w.heap.size, e.up, none⟩ (.int .i64 (a1 : Int)) = W := ⟨_, rfl⟩
                      have hs8 := HFS9.out
                      have hb8 : W8.heap[nb]? = some (.cells #[.int .i64 d.kind, .int .i64 (d.lo : Int), .int .i64 (d.hi : Int), .int .i64 (u : Int)] 88) := by rw [← hW8]; exact (Below.heap_setCell _ _ _ _ HNAB.out).trans HB9.out
                      have hr8 : W8.ownsRow w.heap.size 3 1 (.slice oa ol' oc) ol' (natRow O'.reverse) := by rw [← hW8]; exact own_same HR9.out (fun z hz => Below.heap_setCell _ _ _ _ (fun (x : z = w.heap.size) => HNAB5.out (x ▸ hz)))
                      rw [hW8] at hs8 ⊢
                      have hs7 := hs8.alloc (.cells #[.int .i64 (e.up : Int)] 3)
                      have hr7 := hr8.alloc (.cells #[.int .i64 (e.up : Int)] 3)
                      have hc7 : (W8.alloc (.cells #[.int .i64 (e.up : Int)] 3)).heap[W8.heap.size]? = some (.cells #[.int .i64 (e.up : Int)] 3) := World.alloc_heap_new _ _
                      have hb7 : (W8.alloc (.cells #[.int .i64 (e.up : Int)] 3)).heap[nb]? = _ := (Below.heap_alloc _ _ _ (Array.getElem?_eq_some_iff.1 hb8).1).trans hb8
                      have HS7 := Lib.hid hs7; have HR7 := Lib.hid hr7; have HC7 := Lib.hid hc7; have HB7 := Lib.hid hb7
                      have HNW := Lib.hid (show w.heap.size ≤ (W8.alloc (.cells #[.int .i64 (e.up : Int)] 3)).heap.size from hs7.keep.size)
                      have HNW8 := Lib.hid (show w.heap.size ≤ W8.heap.size from hs8.keep.size)
                      have HRL7 := Lib.hid hr7.lt
                      have HNI := Lib.hid (show nb ≠ W8.heap.size from Nat.ne_of_lt (Array.getElem?_eq_some_iff.1 hb8).1)
                      have HNT := Lib.hid (show ∀ z, (Value.slice oa ol' oc).ownBlock = some z → z ≠ nb from fun z hz x => own_ne hr8 hb8 (by decide) (x ▸ hz))
                      have HABS := Lib.hid (show w.heap.size < W8.heap.size from (hs8.row.lt _ rfl).2)
                      clear hs8 hb8 hr8 hW8 hs7 hr7 hc7 hb7 HFS9 HB9 HR9
                      go_wp2_with (at_builtin; refine append_int rfl _ _ rfl w.heap.size (.slice oa ol' oc) ol' O'.reverse rfl HR7.out e.up W8.heap.size rfl HC7.out HOL4.out HNW.out ?_; intro g cp w7 hown7 hg7 hl7; have HOWN7 := Lib.hid hown7; have HG7 := Lib.hid hg7; have HL7 := Lib.hid hl7; clear hown7 hg7 hl7)
                      go_roundg (d.hi - d.lo - (j + 1))
                      case measure => omega
                      case rel =>
                        refine ⟨j + 1, kk + 1, _, e.up :: O', wrapk5 (Nat.le_trans (Nat.le_of_lt hkL) (Nat.le_trans HLL.out (by decide))), by rw [← HKK.out]; rfl, hjl, HST2.out, HS7.out.grown HGS.out (by rintro z ⟨⟩; exact HRS.out) HG7.out (fun z hz => ⟨(HRL7.out z hz).1, fun x => HNAB5.out (x ▸ hz)⟩), ?_, ?_, ?_, rfl⟩
                        · rw [List.length_cons, HOL'.out, List.reverse_cons]; exact HOWN7.out
                        · intro h
                          injection h with h
                          dsimp only at h
                          rcases HL7.out with h7 | h7
                          · exact HNAB5.out (h ▸ h7)
                          · exact absurd (h.symm.trans h7) (by rw [World.size_alloc]; have := HNW8.out; omega)
                        · exact (HG7.out.block nb (by have := (Array.getElem?_eq_some_iff.1 HB7.out).1; exact this) (fun x => HNT.out _ x.symm rfl)).trans HB7.out
                    · have ga : ((a1 : Int) == 0) = false := by simp; omega
                      rw [if_neg h0] at HST2
                      clear h0
                      go_wp2_with (go_at_call 63; refine HCALL.out.mono ?_; clear n2; rintro e9 w9 ⟨rfl, hgv9, ht9⟩; have hfs9 := HFS5.out.turns HRS.out hgv9 ht9; obtain ⟨ca9, fa9⟩ := hfs9.cell HA.out; have hb9 := ht9.heap HBX.out HNBL.out; have hr9 := own_same HROW5.out (fun z hz => ht9.block z (HOG.out z hz).2 (by have h1 := (HOG.out z hz).1; have h2 := HRS.out; omega)); have hs9 := hfs9.set HGS.out (by rintro z ⟨⟩; exact HRS.out) e.up a1; obtain ⟨cb9, _⟩ := hs9.cell HGET.out; have HFS9 := Lib.hid hs9; have HB9 := Lib.hid hb9; have HR9 := Lib.hid hr9; clear hgv9 ht9 hfs9 hb9 hr9 hs9)
                      go_roundg (d.hi - d.lo - (j + 1))
                      case measure => omega
                      case rel => exact ⟨j + 1, kk + 1, _, O', wrapk5 (Nat.le_trans (Nat.le_of_lt hkL) (Nat.le_trans HLL.out (by decide))), by rw [← HKK.out]; rfl, hjl, HST2.out, HFS9.out, by rw [HOL'.out]; exact own_same HR9.out (fun z hz => Below.heap_setCell _ _ _ _ (fun (x : z = w.heap.size) => HNAB5.out (x ▸ hz))), HNAB5.out, (Below.heap_setCell _ _ _ _ HNAB.out).trans HB9.out, rfl⟩
                  · obtain rfl : j = d.hi - d.lo := by omega
                    obtain rfl : kk = d.hi := by have := HLO.out; have := HKK.out; omega
                    have HCL := Lib.hid HKJ.out.close
                    go_wp2_with fail
                    go_roundg g1
                    case measure => have := HG1.out; have := HPOS.out; omega
                    case rel => exact ⟨A', O', _, rfl, by have := HG1.out; have := HST3.out; omega, HCL.out, HFS5.out, HROW5.out, HNAB5.out⟩
end Go.Proofs.Ytncdbbjkafgphaa
