/- scheme.graph.finite: no node within itself. scheme.graph.compare: what must be the same for one type to be below another. scheme.right and scheme.Under, walked. scheme.Under, walked: is one type under another one? -/
import Derived.Test.YtgambiohchcfdaaUgW
import Derived.Laws.OwnMore
import Derived.Test.YtgambiohchcfdaaPbB
import Derived.Carry
namespace Go.Proofs.Ytgambiohchcfdaa
open Go Go.RowKit
open Tp (T)
open Ug (Of Rt)
def natRow (A : List Nat) : List Value := A.map fun (a : Nat) => .int .i64 (a : Int)
theorem natRow_len (A : List Nat) : (natRow A).length = A.length := by simp [natRow]
theorem natRow_at {A : List Nat} {i a : Nat} (h : A[i]? = some a) : (natRow A)[i]? = some (.int .i64 (a : Int)) := by simp [natRow, h]
theorem natRow_set (A : List Nat) (i a : Nat) : (natRow A).set i (.int .i64 (a : Int)) = natRow (A.set i a) := by simp [natRow, List.map_set]
theorem natRow_snoc (A : List Nat) (a : Nat) : natRow (A ++ [a]) = natRow A ++ [.int .i64 (a : Int)] := by simp [natRow]
theorem info_in1 : (Try.prog.info? 3).map (fun i => (i.zero, i.size, i.bytes)) = some (some (.int .i64 0), 1, 8) := by kernel_rfl
theorem elem_in : Try.prog.underlying 46 = some (.slice (Try.prog.elem 46)) := by kernel_rfl
theorem size_in1 (w : World) : (sizeOf (Try.prog.elem 46)).run Try.prog w = .ok 1 w := by kernel_rfl
theorem in_pop (g n cap k : Nat) (hk : k ≤ n) (hn : n ≤ cap) (w' : World) :
    (Instr.slice 46 (.slice (some ⟨g, 0, none⟩) n cap) none (some (.int .i64 (k : Int))) none).run Try.prog w' = .ok (.slice (some ⟨g, 0, none⟩) k cap) w' := by
  rw [run_slice_h w' _ _ n cap elem_in .i64 (k : Int) (by omega) (by omega), size_in1]
  simp [Result.andThen, sliced, add_flat]
theorem b8u {r : Nat} (h : r ≤ 4 * 1000000) : (r + 1) * 8 ≤ 140737488355328 ∧ r + 1 ≤ maxLen := by unfold maxLen; omega
theorem w64_succ {k : Nat} (h : k ≤ 4 * 1000000) : wrap64 ((k : Int) + 1) = ((k + 1 : Nat) : Int) := by unfold wrap64; omega
theorem wrapk5 {k : Nat} (h : k ≤ 4 * 1000000) : Value.int .i64 (wrap64 ((k : Int) + 1)) = .int .i64 ((k + 1 : Nat) : Int) := by rw [w64_succ h]
theorem w64_pred {k : Nat} (h : k ≤ 4 * 1000000) (h0 : 0 < k) : wrap64 ((k : Int) - 1) = ((k - 1 : Nat) : Int) := by unfold wrap64; omega
/-- The graph, and how often each node is below others. -/
structure FnS (B gb : Nat) (m v : Value) (H : List GNd) (L ab : Nat) (w : World) (A : List Nat) (wr : World) : Prop where
  gv : GV B gb m v wr H
  row : wr.ownsRow w.heap.size 3 1 (.slice (some ⟨ab, 0, none⟩) L L) L (natRow A)
  keep : Kp w.heap.size (fun z => v.ownBlock = some z) w wr
theorem FnS.alloc {B gb : Nat} {m v : Value} {H : List GNd} {L ab : Nat} {w : World} {A : List Nat} {wr : World} (h : FnS B gb m v H L ab w A wr) (o : Obj) : FnS B gb m v H L ab w A (wr.alloc o) :=
  ⟨h.gv.same (Below.heap_alloc _ _ _ (Array.getElem?_eq_some_iff.1 h.gv.box).1) (fun z hz => by obtain ⟨G, _, hown⟩ := h.gv.row; exact Below.heap_alloc _ _ _ (hown.lt z hz).2), h.row.alloc o, h.keep.alloc h.keep.size o⟩
theorem FnS.turns {B gb rb cap : Nat} {m : Value} {H : List GNd} {L ab : Nat} {w : World} {A : List Nat} {wr w' : World} (h : FnS B gb m (.slice (some ⟨rb, 0, none⟩) L cap) H L ab w A wr) (hr : rb < w.heap.size) (hg : GV B gb m (.slice (some ⟨rb, 0, none⟩) L cap) w' H) (ht : Turns (fun k => k = rb) wr w') : FnS B gb m (.slice (some ⟨rb, 0, none⟩) L cap) H L ab w A w' :=
  ⟨hg, own_same h.row (fun z hz => ht.block z (h.row.lt z hz).2 (by have := (h.row.lt z hz).1; omega)), h.keep.trans (Kp.of_turns ht h.keep.size (fun k hk => by rw [hk]; rfl))⟩
theorem FnS.set {B gb : Nat} {m v : Value} {H : List GNd} {L ab : Nat} {w : World} {A : List Nat} {wr : World} (h : FnS B gb m v H L ab w A wr) (hgb : gb < w.heap.size) (hv : ∀ z, v.ownBlock = some z → z < w.heap.size) (i x : Nat) : FnS B gb m v H L ab w (A.set i x) (wr.setCell ⟨ab, i, none⟩ (.int .i64 (x : Int))) := by
  have hab := (h.row.lt ab rfl).1
  refine ⟨h.gv.same (Below.heap_setCell _ _ _ _ (by show gb ≠ ab; omega)) (fun z hz => Below.heap_setCell _ _ _ _ (by have := hv z hz; show z ≠ ab; omega)), ?_, h.keep.setCell (.inl hab) _⟩
  rw [← natRow_set]; exact (h.row.stored i _).1
theorem FnS.cell {B gb : Nat} {m v : Value} {H : List GNd} {L ab : Nat} {w : World} {A : List Nat} {wr : World} (h : FnS B gb m v H L ab w A wr) {i a : Nat} (ha : A[i]? = some a) : wr.cell? ⟨ab, i, none⟩ = some (.int .i64 (a : Int)) ∧ wr.frozen? ⟨ab, i, none⟩ = false := by
  have := h.row.cells (g := ab) rfl i _ (natRow_at ha)
  rw [add_flat, Nat.zero_add] at this
  exact ⟨this, h.row.frozenAt _⟩
theorem FnS.drew {B gb : Nat} {m v : Value} {H : List GNd} {L ab : Nat} {w : World} {A : List Nat} {wr : World} (h : FnS B gb m v H L ab w A wr) : FnS B gb m v H L ab w A wr.drew := ⟨h.gv.same rfl (fun _ _ => rfl), h.row, h.keep.drew⟩
/-- Whoever stands for itself in memory does so in the graph. -/
theorem gv_self {B gb rb cap L : Nat} {m : Value} {w : World} {H : List GNd} (h : GV B gb m (.slice (some ⟨rb, 0, none⟩) L cap) w H) (hL : H.length = L) {p : Nat} {d : GNd} (hd : H[p]? = some d) :
    ∃ u : Nat, w.cell? ⟨rb, p * 4 + 3, none⟩ = some (.int .i64 (u : Int)) ∧ (u = p ↔ d.up = p) := by
  subst hL
  obtain ⟨G, hO, hown⟩ := h.row
  rw [← hO.len] at hown
  obtain ⟨g, hg, _⟩ := hO.get hd
  exact ⟨g.up, (nd_cells hown hg).2.2.2, hO.self hg hd⟩
theorem ein_le {H : List GNd} {M : Nat} (hw : Ug.Wf H M) (r p : Nat) : Ug.ein H r p ≤ 2 := by
  unfold Ug.ein
  cases h : H[p]? with
  | none => exact Nat.zero_le _
  | some d =>
    obtain ⟨_, _, h3, _⟩ := hw.kids p d h
    have h4 := arity_le d.kind
    exact Nat.le_trans (Ug.cnt_le H r d.lo (d.hi - d.lo)) (by omega)
theorem esum_le {H : List GNd} {M : Nat} (hw : Ug.Wf H M) (r : Nat) : ∀ L : List Nat, Ug.esum H r L ≤ 2 * L.length
  | [] => by simp [Ug.esum]
  | p :: L => by
    have h1 := esum_le hw r L
    have h2 := ein_le hw r p
    show Ug.ein H r p + Ug.esum H r L ≤ 2 * (L.length + 1)
    omega
theorem ownL_le (H : List GNd) (P : Nat) : (Ug.ownL H P).length ≤ P := by
  unfold Ug.ownL
  exact Nat.le_trans (List.length_filter_le _ _) (by simp)
theorem cti_le {H : List GNd} {M P j a r : Nat} {d : GNd} {A : List Nat} (hw : Ug.Wf H M) (h : Ug.CtI H P d j A) (hj : j ≤ 2) (hP : P ≤ 1000000) (ha : A[r]? = some a) : a ≤ 4 * 1000000 := by
  have h1 := h.cn r a ha
  have h2 := esum_le hw r (Ug.ownL H P)
  have h3 := ownL_le H P
  have h4 := Ug.cnt_le H r d.lo j
  omega
theorem own_topI {w : World} {base : Nat} {v : Value} {O : List Nat} {r : Nat} (h : w.ownsRow base 3 1 v (O.length + 1) (natRow (r :: O).reverse)) :
    ∃ g cap, v = .slice (some ⟨g, 0, none⟩) (O.length + 1) cap ∧ base ≤ g ∧ g < w.heap.size ∧ O.length + 1 ≤ cap ∧ cap ≤ maxLen ∧ w.cell? ⟨g, O.length, none⟩ = some (.int .i64 (r : Int)) ∧ w.ownsRow base 3 1 (.slice (some ⟨g, 0, none⟩) O.length cap) O.length (natRow O.reverse) := by
  rw [List.reverse_cons, natRow_snoc] at h
  obtain ⟨h1, h2 | ⟨g, cap, cur, h3, h4, h5, h6, h7, h8, h9⟩⟩ := id h
  · omega
  · subst h3
    have hlen := natRow_len O.reverse
    rw [List.length_reverse] at hlen
    have hc := h.cells (g := g) rfl
    refine ⟨g, cap, rfl, h4, (Array.getElem?_eq_some_iff.1 h5).1, h6, h7, ?_, own_take h (Nat.le_succ _) (by rw [hlen, Nat.mul_one])⟩
    have := hc O.length (.int .i64 (r : Int)) (by rw [← hlen, List.getElem?_append_right (Nat.le_refl _), Nat.sub_self]; rfl)
    rwa [add_flat, Nat.zero_add] at this
set_option maxRecDepth 100000 in
theorem append_int {w : World} {ops : Array Oper} {rest : List Oper} {o : Oper} {act : Act} {Q : Exit → Act → World → Prop} (hgd : o.guard = none) (s x : Operand)
    (ho : o.op = .call { callee := .builtin .append, args := #[s, x], argTypes := #[46, 46] })
    (base : Nat) (v : Value) (k : Nat) (O : List Nat) (hs : act.eval s = v) (hown : w.ownsRow base 3 1 v k (natRow O)) (p hb : Nat) (hx : act.eval x = .slice (some ⟨hb, 0, none⟩) 1 1) (hc : w.heap[hb]? = some (.cells #[.int .i64 (p : Int)] 3))
    (hlen : k ≤ 4 * 1000000) (hbase : base ≤ w.heap.size)
    (h : ∀ g cap w', w'.ownsRow base 3 1 (.slice (some ⟨g, 0, none⟩) (k + 1) cap) (k + 1) (natRow (O ++ [p])) → w.grownBy w' v.ownBlock → (v.ownBlock = some g ∨ g = w.heap.size) → wpList Try.prog ops Q rest (act.put o.dst (.slice (some ⟨g, 0, none⟩) (k + 1) cap)) w') : wpList Try.prog ops Q (o :: rest) act w := by
  obtain ⟨i0, hi, hz0, hz1, hz2⟩ := info_parts info_in1
  obtain ⟨b1, b2⟩ := b8u hlen
  refine wpList_plain hgd fun K hK => ?_
  refine wp_append_lies w s x 46 ho base 3 i0 (.int .i64 0) 1 8 Try.underlying46 hi hz0 hz1 hz2 rfl (by decide) v k (natRow O) hs hown ⟨hb, 0, none⟩ 1 1 [.int .i64 (p : Int)] hx rfl ?_ (by intro u hu; rw [List.mem_singleton.1 hu]; rfl) (by decide) b2 b1 hbase w.heap.size rfl fun g cap w' h1 h2 h3 _ => hK _ _ (h g cap w' (by rw [natRow_snoc]; exact h1) h2 h3)
  intro j u hu
  match j with
  | 0 => injection hu with hu; subst hu; rw [add_flat]; exact cell_box hc rfl rfl
  | j + 1 => simp at hu
/-- A stack of places of the call's own, behind an append onto it. -/
theorem FnS.grown {B gb : Nat} {m v : Value} {H : List GNd} {L ab : Nat} {w : World} {A : List Nat} {wr w7 : World} {row : Option Nat} (h : FnS B gb m v H L ab w A wr) (hgb : gb < w.heap.size) (hv : ∀ z, v.ownBlock = some z → z < w.heap.size) (hg : wr.grownBy w7 row) (hr : ∀ z, row = some z → w.heap.size ≤ z ∧ z ≠ ab) : FnS B gb m v H L ab w A w7 := by
  have hs := h.keep.size
  refine ⟨h.gv.same (hg.block gb (by omega) (fun e => by have := (hr gb e.symm).1; omega)) (fun z hz => hg.block z (by have := hv z hz; omega) (fun e => by have := (hr z e.symm).1; have := hv z hz; omega)), own_same h.row (fun z hz => hg.block z (h.row.lt z hz).2 (fun e => by injection hz with hz; exact (hr z e.symm).2 hz.symm)), h.keep.grown hg hs (fun z hz => .inl (hr z hz).1)⟩
theorem nodup_len : ∀ (n : Nat) (O : List Nat), O.Nodup → (∀ x ∈ O, x < n) → O.length ≤ n
  | 0, O, _, h => by
    cases O with
    | nil => simp
    | cons a O => have := h a (by simp); omega
  | n + 1, O, hn, h => by
    have h1 := nodup_len n (O.erase n) (hn.erase n) (fun x hx => by
      have h2 := (List.Nodup.mem_erase_iff hn).1 hx
      have h3 := h x h2.2
      have := h2.1
      omega)
    have h4 : O.length ≤ (O.erase n).length + 1 := by
      by_cases hm : n ∈ O
      · rw [List.length_erase_of_mem hm]; omega
      · rw [List.erase_of_not_mem hm]; omega
    omega
theorem own_lt {H : List GNd} {r : Nat} (h : Ug.own H r = true) : r < H.length := by
  obtain ⟨d, hd, _⟩ := Ug.own_iff.1 h
  exact (List.getElem?_eq_some_iff.1 hd).1
theorem kni_len {H : List GNd} {d : GNd} {r0 j st : Nat} {A O D : List Nat} (h : Ug.KnI H d r0 j A st O D) : O.length ≤ H.length := nodup_len _ O h.on (fun x hx => own_lt (h.o1 x hx).1)
theorem kni_a {H : List GNd} {M : Nat} (hw : Ug.Wf H M) {d : GNd} {r0 j st a r : Nat} {A O D : List Nat} (h : Ug.KnI H d r0 j A st O D) (hd : d.hi - d.lo ≤ 2) (hL : H.length ≤ 1000000) (ha : A[r]? = some a) : a ≤ 4 * 1000000 := by
  have h1 := h.cn r a ha
  have h2 := esum_le hw r (Ug.rest H D)
  have h3 : (Ug.rest H D).length ≤ H.length := by
    unfold Ug.rest
    exact Nat.le_trans (List.length_filter_le _ _) (ownL_le H H.length)
  have h4 := Ug.cnt_le H r (d.lo + j) (d.hi - d.lo - j)
  omega
def FiPost (v : Value) (H : List GNd) (w : World) (e : Ending) (w' : World) : Prop := ∃ b, e = .returned (.bool b) ∧ (b = true ↔ ∃ f, Ug.Good f ∧ Ug.Sol H f) ∧ Kp w.heap.size (fun z => v.ownBlock = some z) w w'
set_option maxRecDepth 100000 in
set_option maxHeartbeats 8000000 in
theorem finite_any (B gb rb cap : Nat) (m : Value) (H : List GNd) (w : World) (h : GV B gb m (.slice (some ⟨rb, 0, none⟩) H.length cap) w H) (hw : Ug.Wf H H.length) (hc : Ug.Cong H []) (hl : H.length ≤ 1000000) (hpos : 0 < H.length) :
    Calls Try.prog 42 #[.pointer (some ⟨gb, 0, none⟩)] w (FiPost (.slice (some ⟨rb, 0, none⟩) H.length cap) H w) := by
  obtain ⟨G, rb', cap', hv, hO, hown, hrl, hrs, hne⟩ := gv_open h hpos
  injection hv with hv1 hv2 hv3
  injection hv1 with hv1
  injection hv1 with hv1
  subst hv1 hv3
  have hgs : gb < w.heap.size := (Array.getElem?_eq_some_iff.1 h.box).1
  have HWF := Lib.hid hw; have HCG := Lib.hid hc
  obtain ⟨L, hL⟩ : ∃ L, H.length = L := ⟨_, rfl⟩
  rw [hL] at hl h hpos ⊢
  obtain ⟨i0, hi, hz0, hz1, hz2⟩ := info_parts info_in1
  obtain ⟨W1, hmk, hown1, hg1⟩ := run_make_full (P := Try.prog) w w.heap.size 46 3 i0 (.int .i64 0) 1 Try.underlying46 hi hz0 hz1 .i64 .i64 L (by rw [hz2]; omega) (by unfold maxLen; omega) (Nat.le_refl _)
  have hst : FnS B gb m (.slice (some ⟨rb, 0, none⟩) L cap) H L w.heap.size w (List.replicate H.length 0) W1 := by
    have hkp : Kp w.heap.size (fun z => (Value.slice (some ⟨rb, 0, none⟩) L cap).ownBlock = some z) w W1 := (Kp.refl _ _ _).grown hg1 (Nat.le_refl _) (fun k h => by cases h)
    refine ⟨h.same (hg1.block gb hgs (by simp)) (by rintro z ⟨⟩; exact hg1.block rb hrs (by simp)), ?_, hkp⟩
    have e : (madeCells (Value.int .i64 0).cells (L * 1)).toList = natRow (List.replicate H.length 0) := by
      rw [Nat.mul_one, show (Value.int .i64 0).cells = #[.int .i64 0] from rfl, toList_madeCells_one, hL]
      simp [natRow]
    rw [← e]; exact hown1
  have hct := Ug.Ct.start H
  have cb : w.cell? ⟨gb, 0, none⟩ = some (.slice (some ⟨rb, 0, none⟩) L cap) := cell_box h.box rfl rfl
  have HST := Lib.hid hst; have HCT := Lib.hid hct; have HL := Lib.hid hL; have HRL := Lib.hid hrl; have HRS := Lib.hid hrs; have HNE := Lib.hid hne; have HGS := Lib.hid hgs; have HLL := Lib.hid hl
  have cb1 : W1.cell? ⟨gb, 0, none⟩ = some (.slice (some ⟨rb, 0, none⟩) L cap) := cell_box hst.gv.box rfl rfl
  clear hst hct hL hrl hrs hne hgs hO hown h hw hc hl hown1 hg1 hpos hi hz0 hz1 hz2
  go_enter Try.func42, Try.ntmps42
  go_wp2_with fail
  clear cb cb1 hmk
  go_loopg [4, 26] L (fun gk v4 v26 wr => ∃ (P st : Nat) (A : List Nat), v4 = .int .i64 (st : Int) ∧ v26 = .int .i64 (P : Int) ∧ P ≤ L ∧ st ≤ P ∧ Ug.Ct H P A st ∧ FnS B gb m (.slice (some ⟨rb, 0, none⟩) L cap) H L w.heap.size w A wr ∧ gk = L - P)
  case atStart => exact ⟨0, 0, _, rfl, rfl, Nat.zero_le _, Nat.zero_le _, HCT.out, HST.out, rfl⟩
  case round =>
    obtain ⟨P, st, A, rfl, rfl, hPL, hstP, hct, hfs, rfl⟩ := hrel
    have HCT := Lib.hid hct; have HFS := Lib.hid hfs
    clear hct hfs HST
    by_cases hlt : P < L
    · obtain ⟨d, hd⟩ : ∃ d, H[P]? = some d := ⟨_, List.getElem?_eq_getElem (by rw [HL.out]; exact hlt)⟩
      obtain ⟨d0, d1, d2, _⟩ := gv_node HFS.out.gv HL.out hd
      obtain ⟨u, du, hself⟩ := gv_self HFS.out.gv HL.out hd
      obtain ⟨p0, p1⟩ := pt_int hlt
      have hP10 : P ≤ 1000000 := Nat.le_trans hPL HLL.out
      have hx2 : (wr.alloc (.cells #[.int .i64 d.kind, .int .i64 (d.lo : Int), .int .i64 (d.hi : Int), .int .i64 (u : Int)] 88)).heap[wr.heap.size]? = some (.cells #[.int .i64 d.kind, .int .i64 (d.lo : Int), .int .i64 (d.hi : Int), .int .i64 (u : Int)] 88) := World.alloc_heap_new _ _
      have hfs2 := HFS.out.alloc (.cells #[.int .i64 d.kind, .int .i64 (d.lo : Int), .int .i64 (d.hi : Int), .int .i64 (u : Int)] 88)
      have HD := Lib.hid hd; have HSELF := Lib.hid hself; have HX2 := Lib.hid hx2; have HFS2 := Lib.hid hfs2; have HP10 := Lib.hid hP10
      have HNB := Lib.hid (show w.heap.size ≤ wr.heap.size from HFS.out.keep.size)
      clear hd hself hx2 hfs2 hP10
      by_cases hu : u = P
      · have gu : ((u : Int) == (P : Int)) = true := by simp [hu]
        have HUP := Lib.hid (HSELF.out.1 hu)
        have hw1 : wrap64 ((st : Int) + 1) = ((st + 1 : Nat) : Int) := w64_succ (Nat.le_trans hstP (Nat.le_trans HP10.out (by decide)))
        obtain ⟨st1, hst1⟩ : ∃ s, st + 1 = s := ⟨_, rfl⟩
        rw [hst1] at hw1
        have HST1 := Lib.hid hst1; have HW1 := Lib.hid hw1
        clear hu hst1 hw1
        have hK2 : d.hi - d.lo ≤ 2 := by have h1 := (HWF.out.kids P d HD.out).2.2.1; have h2 := arity_le d.kind; omega
        have hlo := (HWF.out.kids P d HD.out).1
        have hhi := (HWF.out.kids P d HD.out).2.1
        rw [HL.out] at hhi
        have HK2 := Lib.hid hK2; have HLO := Lib.hid hlo; have HHI := Lib.hid hhi
        clear hK2 hlo hhi
        go_wp2_with fail
        rw [HW1.out]
        obtain ⟨nb, hnb⟩ : ∃ n, wr.heap.size = n := ⟨_, rfl⟩
        rw [hnb] at HX2 HNB ⊢
        clear hnb
        go_loopg [7] (d.hi - d.lo) (fun gk v7 wx => ∃ (j kk : Nat) (A' : List Nat), v7 = .int .i64 (kk : Int) ∧ d.lo + j = kk ∧ j ≤ d.hi - d.lo ∧ Ug.CtI H P d j A' ∧ FnS B gb m (.slice (some ⟨rb, 0, none⟩) L cap) H L w.heap.size w A' wx ∧ wx.heap[nb]? = some (.cells #[.int .i64 d.kind, .int .i64 (d.lo : Int), .int .i64 (d.hi : Int), .int .i64 (u : Int)] 88) ∧ gk = d.hi - d.lo - j)
        case atStart => exact ⟨0, d.lo, A, rfl, rfl, Nat.zero_le _, HCT.out.open d, HFS2.out, HX2.out, rfl⟩
        case round =>
          obtain ⟨j, kk, A', rfl, hkk, hj, hci, hfs, hbx, rfl⟩ := hrel
          have HKK := Lib.hid hkk; clear hkk
          have HCI := Lib.hid hci; have HFS3 := Lib.hid hfs; have HBX := Lib.hid hbx
          have n2 := cell_box (i := 2) hbx rfl rfl
          clear hci hfs hbx
          by_cases hjl : j < d.hi - d.lo
          · have hkd : kk < d.hi := by have := HKK.out; omega
            have hkL : kk < L := Nat.lt_of_lt_of_le hkd HHI.out
            obtain ⟨q0, q1⟩ := pt_int hkd
            obtain ⟨e, he⟩ : ∃ e, H[kk]? = some e := ⟨_, List.getElem?_eq_getElem (by rw [HL.out]; exact hkL)⟩
            obtain ⟨f, hf, _⟩ := HWF.out.top _ e he
            have hful : e.up < L := by rw [← HL.out]; exact (List.getElem?_eq_some_iff.1 hf).1
            obtain ⟨a, ha⟩ : ∃ a, A'[e.up]? = some a := ⟨_, List.getElem?_eq_getElem (by rw [HCI.out.al, HL.out]; exact hful)⟩
            have ha4 := cti_le HWF.out HCI.out (Nat.le_trans hj HK2.out) HP10.out ha
            have hst2 := HCI.out.step (a := a) (by rw [HKK.out, Ug.rep_at he]; exact ha)
            rw [HKK.out, Ug.rep_at he] at hst2
            have hgv := HFS3.out.gv
            obtain ⟨r0, r1⟩ := pt_int hful
            have hcall := find_any B gb rb cap m H kk e wr (by rw [HL.out]; exact hgv) he
            rw [HL.out] at hcall
            have hw2 : wrap64 ((a : Int) + 1) = ((a + 1 : Nat) : Int) := w64_succ ha4
            have HCALL := Lib.hid hcall; have HST2 := Lib.hid hst2; have HA := Lib.hid ha
            have HNBL := Lib.hid (show nb ≠ rb by have := HNB.out; have := HRS.out; omega)
            have HNAB := Lib.hid (show nb ≠ w.heap.size from fun x => own_ne HFS3.out.row (x ▸ HBX.out) (by decide) rfl)
            clear hcall hst2 ha hgv ha4 he hf
            go_wp2_with (go_at_call 63; refine HCALL.out.mono ?_; clear n2; rintro e9 w9 ⟨rfl, hgv9, ht9⟩; have hfs9 := HFS3.out.turns HRS.out hgv9 ht9; obtain ⟨ca9, fa9⟩ := hfs9.cell HA.out; have hb9 := ht9.heap HBX.out HNBL.out; have HFS9 := Lib.hid hfs9; have HB9 := Lib.hid hb9; clear hgv9 ht9 hfs9 hb9)
            have hfs8 := HFS9.out.set HGS.out (by rintro z ⟨⟩; exact HRS.out) e.up (a + 1)
            have hb8 := (Below.heap_setCell w9 ⟨w.heap.size, e.up, none⟩ (.int .i64 ((a + 1 : Nat) : Int)) nb HNAB.out).trans HB9.out
            go_roundg (d.hi - d.lo - (j + 1))
            case measure => omega
            case rel => exact ⟨j + 1, kk + 1, _, wrapk5 (Nat.le_trans (Nat.le_of_lt hkL) (Nat.le_trans HLL.out (by decide))), by rw [← HKK.out]; rfl, hjl, HST2.out, hfs8, hb8, rfl⟩
          · obtain rfl : j = d.hi - d.lo := by omega
            have hcl := Ug.CtI.close HCT.out HD.out HUP.out HCI.out
            have HCL := Lib.hid hcl
            obtain rfl : kk = d.hi := by have := HLO.out; have := HKK.out; omega
            clear hcl
            go_wp2_with fail
            go_roundg (L - (P + 1))
            case measure => omega
            case rel => exact ⟨P + 1, st1, _, rfl, wrapk5 (Nat.le_trans HP10.out (by decide)), hlt, by have := HST1.out; omega, HST1.out ▸ HCL.out, HFS3.out, rfl⟩
      · have gu : ((u : Int) == (P : Int)) = false := by simp; omega
        have hnx := HCT.out.skip HD.out (fun e => hu (HSELF.out.2 e))
        have HNX := Lib.hid hnx
        clear hu hnx
        go_wp2_with fail
        go_roundg (L - (P + 1))
        case measure => omega
        case rel => exact ⟨P + 1, st, A, rfl, wrapk5 (Nat.le_trans HP10.out (by decide)), hlt, by omega, HNX.out, HFS2.out, rfl⟩
    · obtain rfl : L = P := by omega
      have cb : wr.cell? ⟨gb, 0, none⟩ = some (.slice (some ⟨rb, 0, none⟩) L cap) := cell_box HFS.out.gv.box rfl rfl
      go_wp2_with fail
      clear cb
      have HSTP := Lib.hid hstP; clear hstP hPL hlt
      go_loopg [8, 59] L (fun gk v8 v59 wx => ∃ P : Nat, v59 = .int .i64 (P : Int) ∧ P ≤ L ∧ FnS B gb m (.slice (some ⟨rb, 0, none⟩) L cap) H L w.heap.size w A wx ∧ wx.ownsRow w.heap.size 3 1 v8 (Ug.zeros H A P).length (natRow (Ug.zeros H A P).reverse) ∧ v8.ownBlock ≠ some w.heap.size ∧ gk = L - P)
      case atStart => exact ⟨0, rfl, Nat.zero_le _, HFS.out, World.ownsRow_nil _ _ _ _, by simp [Value.ownBlock], rfl⟩
      case round =>
        obtain ⟨P, rfl, hPL, hfs, hrow, hnab, rfl⟩ := hrel
        obtain ⟨oa, oc, rfl⟩ := own_shapeT hrow
        obtain ⟨zl, hzl⟩ : ∃ z, (Ug.zeros H A P).length = z := ⟨_, rfl⟩
        rw [hzl] at hrow hnab ⊢
        have HFS3 := Lib.hid hfs; have HROW := Lib.hid hrow; have HNAB := Lib.hid hnab; have HZL := Lib.hid hzl
        clear hfs hrow hnab hzl HFS
        by_cases hlt : P < L
        · obtain ⟨d, hd⟩ : ∃ d, H[P]? = some d := ⟨_, List.getElem?_eq_getElem (by rw [HL.out]; exact hlt)⟩
          obtain ⟨d0, d1, d2, _⟩ := gv_node HFS3.out.gv HL.out hd
          obtain ⟨u, du, hself⟩ := gv_self HFS3.out.gv HL.out hd
          obtain ⟨p0, p1⟩ := pt_int hlt
          have hP10 : P ≤ 1000000 := Nat.le_trans hPL HLL.out
          obtain ⟨a, ha⟩ : ∃ a, A[P]? = some a := ⟨_, List.getElem?_eq_getElem (by rw [HCT.out.al, HL.out]; exact hlt)⟩
          have hfs2 := HFS3.out.alloc (.cells #[.int .i64 d.kind, .int .i64 (d.lo : Int), .int .i64 (d.hi : Int), .int .i64 (u : Int)] 88)
          obtain ⟨ca, _⟩ := hfs2.cell ha
          have hrow2 := HROW.out.alloc (.cells #[.int .i64 d.kind, .int .i64 (d.lo : Int), .int .i64 (d.hi : Int), .int .i64 (u : Int)] 88)
          have hown : Ug.own H P = true ↔ u = P := by rw [Ug.own_iff]; exact ⟨fun ⟨e, he, hu⟩ => by rw [hd] at he; injection he with he; subst he; exact hself.2 hu, fun hu => ⟨d, hd, hself.1 hu⟩⟩
          have HOWN := Lib.hid hown; have HFS2 := Lib.hid hfs2; have HROW2 := Lib.hid hrow2; have HP10 := Lib.hid hP10; have HA := Lib.hid ha
          clear hd hself hfs2 hP10 ha hrow2 hown
          have hzs := Ug.zeros_succ H A P
          have hx2 : (wr.alloc (.cells #[.int .i64 d.kind, .int .i64 (d.lo : Int), .int .i64 (d.hi : Int), .int .i64 (u : Int)] 88)).heap[wr.heap.size]? = some (.cells #[.int .i64 d.kind, .int .i64 (d.lo : Int), .int .i64 (d.hi : Int), .int .i64 (u : Int)] 88) := World.alloc_heap_new _ _
          by_cases hu : u = P
          · have gu : ((u : Int) == (P : Int)) = true := by simp [hu]
            by_cases ha0 : a = 0
            · have ga : ((a : Int) == 0) = true := by simp [ha0]
              rw [if_pos ⟨HOWN.out.2 hu, by rw [HA.out, ha0]⟩] at hzs
              have HZS := Lib.hid hzs
              clear hu ha0 hzs
              go_upto_region 18 with fail
              have hWx := HFS2.out.alloc (.cells #[.int .i64 (P : Int)] 3)
              have hRx := HROW2.out.alloc (.cells #[.int .i64 (P : Int)] 3)
              have hcx : ((wr.alloc (.cells #[.int .i64 d.kind, .int .i64 (d.lo : Int), .int .i64 (d.hi : Int), .int .i64 (u : Int)] 88)).alloc (.cells #[.int .i64 (P : Int)] 3)).heap[wr.heap.size + 1]? = some (.cells #[.int .i64 (P : Int)] 3) := box2 _ _ _ _ _
              have HWX := Lib.hid hWx; have HRX := Lib.hid hRx; have HCX := Lib.hid hcx
              have HNW := Lib.hid (Nat.le_trans HFS3.out.keep.size (show wr.heap.size ≤ ((wr.alloc (.cells #[.int .i64 d.kind, .int .i64 (d.lo : Int), .int .i64 (d.hi : Int), .int .i64 (u : Int)] 88)).alloc (.cells #[.int .i64 (P : Int)] 3)).heap.size by rw [World.size_alloc, World.size_alloc]; omega))
              have HZ4 := Lib.hid (show zl ≤ 4 * 1000000 by have h1 := Ug.zeros_len H A P; rw [HZL.out] at h1; exact Nat.le_trans h1 (Nat.le_trans HP10.out (by decide)))
              clear hWx hRx hcx hx2 ca
              go_wp2_with (at_builtin; refine append_int rfl _ _ rfl w.heap.size (.slice oa zl oc) zl (Ug.zeros H A P).reverse rfl HRX.out P (wr.heap.size + 1) rfl HCX.out HZ4.out HNW.out ?_; intro g cp w7 hown7 hg7 hl7; have HOWN7 := Lib.hid hown7; have HG7 := Lib.hid hg7; have HL7 := Lib.hid hl7; clear hown7 hg7 hl7)
              have hlt0 := HROW.out.lt
              have HLT0 := Lib.hid hlt0; clear hlt0
              go_roundg (L - (P + 1))
              case measure => omega
              case rel =>
                refine ⟨P + 1, wrapk5 (Nat.le_trans HP10.out (by decide)), hlt, HWX.out.grown HGS.out (by rintro z ⟨⟩; exact HRS.out) HG7.out (fun z hz => ⟨(HLT0.out z hz).1, fun e => HNAB.out (e ▸ hz)⟩), ?_, ?_, rfl⟩
                · rw [HZS.out, List.length_append, List.length_singleton, List.reverse_append, List.reverse_singleton, HZL.out, Nat.add_comm 1 zl]; exact HOWN7.out
                · intro h
                  injection h with h
                  dsimp only at h
                  rcases HL7.out with h7 | h7
                  · exact HNAB.out (h ▸ h7)
                  · exact absurd (h.symm.trans h7) (by have h8 := HFS3.out.keep.size; rw [World.size_alloc, World.size_alloc]; omega)
            · have ga : ((a : Int) == 0) = false := by simp; omega
              rw [if_neg (fun h => ha0 (by have := h.2; rw [HA.out] at this; exact Option.some.inj this))] at hzs
              have HZS := Lib.hid hzs
              clear hu ha0 hzs
              go_wp2_with fail
              go_roundg (L - (P + 1))
              case measure => omega
              case rel => exact ⟨P + 1, wrapk5 (Nat.le_trans HP10.out (by decide)), hlt, HFS2.out, by rw [HZS.out, List.nil_append, HZL.out]; exact HROW2.out, HNAB.out, rfl⟩
          · have gu : ((u : Int) == (P : Int)) = false := by simp; omega
            rw [if_neg (fun h => hu (HOWN.out.1 h.1))] at hzs
            have HZS := Lib.hid hzs
            clear hu hzs
            go_wp2_with fail
            go_roundg (L - (P + 1))
            case measure => omega
            case rel => exact ⟨P + 1, wrapk5 (Nat.le_trans HP10.out (by decide)), hlt, HFS2.out, by rw [HZS.out, List.nil_append, HZL.out]; exact HROW2.out, HNAB.out, rfl⟩
        · obtain rfl : L = P := by omega
          go_wp2_with fail
          have hkn := Ug.Kn.start (H := H) (A := A) (st := st) (by rw [HL.out]; exact HCT.out)
          rw [HL.out] at hkn
          have HKN := Lib.hid hkn
          clear hkn hlt hPL
          go_loopg [4, 8] st (fun gk v4 v8 wx => ∃ A O D, v4 = .int .i64 (gk : Int) ∧ gk ≤ L ∧ Ug.Kn H A gk O D ∧ FnS B gb m (.slice (some ⟨rb, 0, none⟩) L cap) H L w.heap.size w A wx ∧ wx.ownsRow w.heap.size 3 1 v8 O.length (natRow O.reverse) ∧ v8.ownBlock ≠ some w.heap.size)
          case atStart => exact ⟨A, _, [], rfl, HSTP.out, HKN.out, HFS3.out, by rw [HZL.out]; exact HROW.out, HNAB.out⟩
          case round =>
            obtain ⟨A, O, D, rfl, hst, hkn, hfs, hrow, hnab⟩ := hrel
            have HST3 := Lib.hid hst; have HKN := Lib.hid hkn; have HFS := Lib.hid hfs
            clear hst hkn hfs HFS3 HROW HNAB
            cases O with
            | nil =>
              obtain ⟨oa, oc, rfl⟩ := own_shapeT hrow
              clear hrow hnab
              by_cases h0 : gk = 0
              · have g0 : ((gk : Int) == 0) = true := by simp [h0]
                subst h0
                have HY := Lib.hid (HKN.out.yes HWF.out HCG.out)
                go_wp2_with fail
                go_ret
                exact ⟨true, rfl, ⟨fun _ => HY.out, fun _ => rfl⟩, HFS.out.keep⟩
              · have g0 : ((gk : Int) == 0) = false := by simp; omega
                have HY := Lib.hid (HKN.out.no HWF.out h0)
                clear h0
                go_wp2_with fail
                go_ret
                exact ⟨false, rfl, ⟨(fun h => by cases h), fun ⟨f, _, hf⟩ => absurd hf (HY.out f)⟩, HFS.out.keep⟩
            | cons r O =>
              obtain ⟨g, cap3, rfl, hg1, hg2, hcp, hcm, hx0, hrow2⟩ := own_topI (v := u8) hrow
              obtain ⟨ol, hol⟩ : ∃ z, O.length = z := ⟨_, rfl⟩
              rw [hol] at hx0 hrow2 hcp hnab ⊢
              obtain ⟨d, hd, hdu⟩ := Ug.own_iff.1 (HKN.out.o1 r (by simp)).1
              obtain ⟨hpos, hki⟩ := HKN.out.pop hd
              obtain ⟨d0, d1, d2, _⟩ := gv_node HFS.out.gv HL.out hd
              obtain ⟨u, du, _⟩ := gv_self HFS.out.gv HL.out hd
              have hrL : r < L := by rw [← HL.out]; exact (List.getElem?_eq_some_iff.1 hd).1
              obtain ⟨p0, p1⟩ := pt_int hrL
              obtain ⟨i1, i2⟩ := pt_int (Nat.lt_succ_self ol)
              have i3 : (ol : Int) < (ol : Int) + 1 := Int.lt_succ _
              have hwr : wrap64 (ol : Int) = (ol : Int) := by unfold wrap64; unfold maxLen at hcm; omega
              have hpop := in_pop g (ol + 1) cap3 ol (by omega) hcp
              have cb : wr.cell? ⟨gb, 0, none⟩ = some (.slice (some ⟨rb, 0, none⟩) L cap) := cell_box HFS.out.gv.box rfl rfl
              have hx2 : (wr.alloc (.cells #[.int .i64 d.kind, .int .i64 (d.lo : Int), .int .i64 (d.hi : Int), .int .i64 (u : Int)] 88)).heap[wr.heap.size]? = some (.cells #[.int .i64 d.kind, .int .i64 (d.lo : Int), .int .i64 (d.hi : Int), .int .i64 (u : Int)] 88) := World.alloc_heap_new _ _
              have hfs2 := HFS.out.alloc (.cells #[.int .i64 d.kind, .int .i64 (d.lo : Int), .int .i64 (d.hi : Int), .int .i64 (u : Int)] 88)
              have hrow3 := hrow2.alloc (.cells #[.int .i64 d.kind, .int .i64 (d.lo : Int), .int .i64 (d.hi : Int), .int .i64 (u : Int)] 88)
              have hK2 : d.hi - d.lo ≤ 2 := by have h1 := (HWF.out.kids r d hd).2.2.1; have h2 := arity_le d.kind; omega
              have hlo := (HWF.out.kids r d hd).1
              have hhi := (HWF.out.kids r d hd).2.1
              rw [HL.out] at hhi
              have HK2 := Lib.hid hK2; have HLO := Lib.hid hlo; have HHI := Lib.hid hhi; have HD := Lib.hid hd; have HKI := Lib.hid hki; have HX2 := Lib.hid hx2; have HFS2 := Lib.hid hfs2; have HROW3 := Lib.hid hrow3; have HNAB := Lib.hid hnab; have HOL := Lib.hid hol; have HPOS := Lib.hid hpos
              have HNB := Lib.hid (show w.heap.size ≤ wr.heap.size from HFS.out.keep.size)
              clear hK2 hlo hhi hd hki hx2 hfs2 hrow3 hnab hol hdu hrow hrow2 hg1 hcm hrL
              have hrb9 : rb < wr.heap.size := Nat.lt_of_lt_of_le HRS.out HNB.out
              have hgb9 : gb < wr.heap.size := Nat.lt_of_lt_of_le HGS.out HNB.out
              have HWR := Lib.hid hwr; clear hwr
              go_upto_region 22 with fail
              rw [HWR.out]
              go_cut [12] (fun v12 wx => v12 = .pointer (some ⟨wr.heap.size, 0, none⟩) ∧ wx = (wr.alloc (.cells #[.int .i64 d.kind, .int .i64 (d.lo : Int), .int .i64 (d.hi : Int), .int .i64 (u : Int)] 88)).drew)
              case first =>
                go_region_law (fail)
                all_goals
                  go_wp2_with fail
                  go_meet
                  exact ⟨rfl, rfl⟩
              case rest =>
                obtain ⟨rfl, hwc⟩ := hcut
                have hfs4 : FnS B gb m (.slice (some ⟨rb, 0, none⟩) L cap) H L w.heap.size w A wc := by rw [hwc]; exact HFS2.out.drew
                have hrow4 : wc.ownsRow w.heap.size 3 1 (.slice (some ⟨g, 0, none⟩) ol cap3) ol (natRow O.reverse) := by rw [hwc]; exact HROW3.out
                have hx4 : wc.heap[wr.heap.size]? = some (.cells #[.int .i64 d.kind, .int .i64 (d.lo : Int), .int .i64 (d.hi : Int), .int .i64 (u : Int)] 88) := by rw [hwc]; exact HX2.out
                have n1 := cell_box (i := 1) hx4 rfl rfl
                have HFS4 := Lib.hid hfs4; have HROW4 := Lib.hid hrow4; have HX4 := Lib.hid hx4
                have hw1 : wrap64 ((gk : Int) - 1) = ((gk - 1 : Nat) : Int) := w64_pred (Nat.le_trans HST3.out (Nat.le_trans HLL.out (by decide))) HPOS.out
                obtain ⟨g1, hg1⟩ : ∃ s, gk - 1 = s := ⟨_, rfl⟩
                rw [hg1] at hw1 HKI
                have HG1 := Lib.hid hg1
                have HW1 := Lib.hid hw1
                clear hfs4 hrow4 hx4 hwc d0 d1 d2 du cb hx0 p0 p1 i1 i2 i3 hg2 hrb9 hgb9 hw1 hg1
                go_wp2_with fail
                rw [HW1.out]
                clear n1
                obtain ⟨nb, hnb⟩ : ∃ n, wr.heap.size = n := ⟨_, rfl⟩
                rw [hnb] at HX4 HNB ⊢
                clear hnb
                go_loopg [8, 13] (d.hi - d.lo) (fun gk v8 v13 wx => ∃ (j kk : Nat) (A' O' : List Nat), v13 = .int .i64 (kk : Int) ∧ d.lo + j = kk ∧ j ≤ d.hi - d.lo ∧ Ug.KnI H d r j A' g1 O' (r :: D) ∧ FnS B gb m (.slice (some ⟨rb, 0, none⟩) L cap) H L w.heap.size w A' wx ∧ wx.ownsRow w.heap.size 3 1 v8 O'.length (natRow O'.reverse) ∧ v8.ownBlock ≠ some w.heap.size ∧
                  wx.heap[nb]? = some (.cells #[.int .i64 d.kind, .int .i64 (d.lo : Int), .int .i64 (d.hi : Int), .int .i64 (u : Int)] 88) ∧ gk = d.hi - d.lo - j)
                case atStart => exact ⟨0, d.lo, A, O, rfl, rfl, Nat.zero_le _, HKI.out, HFS4.out, by rw [HOL.out]; exact HROW4.out, HNAB.out, HX4.out, rfl⟩
                case round =>
                  obtain ⟨j, kk, A', O', rfl, hkk, hj, hki, hfs, hrow, hnab, hbx, rfl⟩ := hrel
                  obtain ⟨oa, oc, rfl⟩ := own_shapeT hrow
                  have HKK := Lib.hid hkk; have HKJ := Lib.hid hki; have HFS5 := Lib.hid hfs; have HBX := Lib.hid hbx; have HROW5 := Lib.hid hrow; have HNAB5 := Lib.hid hnab
                  have n2 := cell_box (i := 2) hbx rfl rfl
                  clear hkk hki hfs hbx hrow hnab
                  by_cases hjl : j < d.hi - d.lo
                  · have hkd : kk < d.hi := by have := HKK.out; omega
                    have hkL : kk < L := Nat.lt_of_lt_of_le hkd HHI.out
                    obtain ⟨q0, q1⟩ := pt_int hkd
                    obtain ⟨e, he⟩ : ∃ e, H[kk]? = some e := ⟨_, List.getElem?_eq_getElem (by rw [HL.out]; exact hkL)⟩
                    obtain ⟨f, hf, hf1, _⟩ := HWF.out.top _ e he
                    have hful : e.up < L := by rw [← HL.out]; exact (List.getElem?_eq_some_iff.1 hf).1
                    obtain ⟨a, ha⟩ : ∃ a, A'[e.up]? = some a := ⟨_, List.getElem?_eq_getElem (by rw [HKJ.out.al, HL.out]; exact hful)⟩
                    have ha4 := kni_a HWF.out HKJ.out HK2.out (by rw [HL.out]; exact HLL.out) ha
                    obtain ⟨hapos, hst2⟩ := HKJ.out.step (e := e) HD.out hjl (by rw [HKK.out]; exact he) (fun f2 h2 => by rw [hf] at h2; injection h2 with h2; rw [← h2]; exact hf1) ha
                    have hgv := HFS5.out.gv
                    obtain ⟨r0, r1⟩ := pt_int hful
                    have hcall := find_any B gb rb cap m H kk e wr (by rw [HL.out]; exact hgv) he
                    rw [HL.out] at hcall
                    have hw2 : wrap64 ((a : Int) - 1) = ((a - 1 : Nat) : Int) := w64_pred ha4 hapos
                    obtain ⟨a1, ha1⟩ : ∃ s, a - 1 = s := ⟨_, rfl⟩
                    rw [ha1] at hw2 hst2
                    have HCALL := Lib.hid hcall; have HST2 := Lib.hid hst2; have HA := Lib.hid ha; have HEUP := Lib.hid hful
                    have HNBL := Lib.hid (show nb ≠ rb by have := HNB.out; have := HRS.out; omega)
                    have HNAB := Lib.hid (show nb ≠ w.heap.size from fun x => own_ne HFS5.out.row (x ▸ HBX.out) (by decide) rfl)
                    have hol := kni_len HKJ.out
                    obtain ⟨ol', hol'⟩ : ∃ z, O'.length = z := ⟨_, rfl⟩
                    rw [hol'] at HROW5 HNAB5 hol ⊢
                    have HOL4 := Lib.hid (show ol' ≤ 4 * 1000000 from Nat.le_trans hol (by rw [HL.out]; exact Nat.le_trans HLL.out (by decide)))
                    have HOL' := Lib.hid hol'
                    have HOG := Lib.hid (show ∀ z, (Value.slice oa ol' oc).ownBlock = some z → w.heap.size ≤ z ∧ z < wr.heap.size from HROW5.out.lt)
                    clear hcall hst2 ha hgv ha4 he hf hol hol' hapos ha1
                    have HGET := Lib.hid (List.getElem?_set_self (l := A') (a := a1) (by have := (List.getElem?_eq_some_iff.1 HA.out).1; exact this))
                    by_cases h0 : a1 = 0
                    · have ga : ((a1 : Int) == 0) = true := by simp [h0]
                      rw [if_pos h0] at HST2
                      clear h0
                      go_upto_region 31 with (go_at_call 63; refine HCALL.out.mono ?_; clear n2; rintro e9 w9 ⟨rfl, hgv9, ht9⟩; have hfs9 := HFS5.out.turns HRS.out hgv9 ht9; obtain ⟨ca9, fa9⟩ := hfs9.cell HA.out; have hb9 := ht9.heap HBX.out HNBL.out; have hr9 := own_same HROW5.out (fun z hz => ht9.block z (HOG.out z hz).2 (by have h1 := (HOG.out z hz).1; have h2 := HRS.out; omega)); have hs9 := hfs9.set HGS.out (by rintro z ⟨⟩; exact HRS.out) e.up a1; obtain ⟨cb9, _⟩ := hs9.cell HGET.out; have HFS9 := Lib.hid hs9; have HB9 := Lib.hid hb9; have HR9 := Lib.hid hr9; clear hgv9 ht9 hfs9 hb9 hr9 hs9)
                      obtain ⟨W8, hW8⟩ : ∃ W, w9.setCell ⟨w.heap.size, e.up, none⟩ (.int .i64 (a1 : Int)) = W := ⟨_, rfl⟩
                      have hs8 := HFS9.out
                      have hb8 : W8.heap[nb]? = some (.cells #[.int .i64 d.kind, .int .i64 (d.lo : Int), .int .i64 (d.hi : Int), .int .i64 (u : Int)] 88) := by rw [← hW8]; exact (Below.heap_setCell _ _ _ _ HNAB.out).trans HB9.out
                      have hr8 : W8.ownsRow w.heap.size 3 1 (.slice oa ol' oc) ol' (natRow O'.reverse) := by rw [← hW8]; exact own_same HR9.out (fun z hz => Below.heap_setCell _ _ _ _ (fun (x : z = w.heap.size) => HNAB5.out (x ▸ hz)))
                      rw [hW8] at hs8 ⊢
                      have hs7 := hs8.alloc (.cells #[.int .i64 (e.up : Int)] 3)
                      have hr7 := hr8.alloc (.cells #[.int .i64 (e.up : Int)] 3)
                      have hc7 : (W8.alloc (.cells #[.int .i64 (e.up : Int)] 3)).heap[W8.heap.size]? = some (.cells #[.int .i64 (e.up : Int)] 3) := World.alloc_heap_new _ _
                      have hb7 : (W8.alloc (.cells #[.int .i64 (e.up : Int)] 3)).heap[nb]? = _ := (Below.heap_alloc _ _ _ (Array.getElem?_eq_some_iff.1 hb8).1).trans hb8
                      have HS7 := Lib.hid hs7; have HR7 := Lib.hid hr7; have HC7 := Lib.hid hc7; have HB7 := Lib.hid hb7
                      have HNW := Lib.hid (show w.heap.size ≤ (W8.alloc (.cells #[.int .i64 (e.up : Int)] 3)).heap.size from hs7.keep.size)
                      have HNW8 := Lib.hid (show w.heap.size ≤ W8.heap.size from hs8.keep.size)
                      have HRL7 := Lib.hid hr7.lt
                      have HNI := Lib.hid (show nb ≠ W8.heap.size from Nat.ne_of_lt (Array.getElem?_eq_some_iff.1 hb8).1)
                      have HNT := Lib.hid (show ∀ z, (Value.slice oa ol' oc).ownBlock = some z → z ≠ nb from fun z hz x => own_ne hr8 hb8 (by decide) (x ▸ hz))
                      have HABS := Lib.hid (show w.heap.size < W8.heap.size from (hs8.row.lt _ rfl).2)
                      clear hs8 hb8 hr8 hW8 hs7 hr7 hc7 hb7 HFS9 HB9 HR9
                      go_wp2_with (at_builtin; refine append_int rfl _ _ rfl w.heap.size (.slice oa ol' oc) ol' O'.reverse rfl HR7.out e.up W8.heap.size rfl HC7.out HOL4.out HNW.out ?_; intro g cp w7 hown7 hg7 hl7; have HOWN7 := Lib.hid hown7; have HG7 := Lib.hid hg7; have HL7 := Lib.hid hl7; clear hown7 hg7 hl7)
                      go_roundg (d.hi - d.lo - (j + 1))
                      case measure => omega
                      case rel =>
                        refine ⟨j + 1, kk + 1, _, e.up :: O', wrapk5 (Nat.le_trans (Nat.le_of_lt hkL) (Nat.le_trans HLL.out (by decide))), by rw [← HKK.out]; rfl, hjl, HST2.out, HS7.out.grown HGS.out (by rintro z ⟨⟩; exact HRS.out) HG7.out (fun z hz => ⟨(HRL7.out z hz).1, fun x => HNAB5.out (x ▸ hz)⟩), ?_, ?_, ?_, rfl⟩
                        · rw [List.length_cons, HOL'.out, List.reverse_cons]; exact HOWN7.out
                        · intro h
                          injection h with h
                          dsimp only at h
                          rcases HL7.out with h7 | h7
                          · exact HNAB5.out (h ▸ h7)
                          · exact absurd (h.symm.trans h7) (by rw [World.size_alloc]; have := HNW8.out; omega)
                        · exact (HG7.out.block nb (by have := (Array.getElem?_eq_some_iff.1 HB7.out).1; exact this) (fun x => HNT.out _ x.symm rfl)).trans HB7.out
                    · have ga : ((a1 : Int) == 0) = false := by simp; omega
                      rw [if_neg h0] at HST2
                      clear h0
                      go_wp2_with (go_at_call 63; refine HCALL.out.mono ?_; clear n2; rintro e9 w9 ⟨rfl, hgv9, ht9⟩; have hfs9 := HFS5.out.turns HRS.out hgv9 ht9; obtain ⟨ca9, fa9⟩ := hfs9.cell HA.out; have hb9 := ht9.heap HBX.out HNBL.out; have hr9 := own_same HROW5.out (fun z hz => ht9.block z (HOG.out z hz).2 (by have h1 := (HOG.out z hz).1; have h2 := HRS.out; omega)); have hs9 := hfs9.set HGS.out (by rintro z ⟨⟩; exact HRS.out) e.up a1; obtain ⟨cb9, _⟩ := hs9.cell HGET.out; have HFS9 := Lib.hid hs9; have HB9 := Lib.hid hb9; have HR9 := Lib.hid hr9; clear hgv9 ht9 hfs9 hb9 hr9 hs9)
                      go_roundg (d.hi - d.lo - (j + 1))
                      case measure => omega
                      case rel => exact ⟨j + 1, kk + 1, _, O', wrapk5 (Nat.le_trans (Nat.le_of_lt hkL) (Nat.le_trans HLL.out (by decide))), by rw [← HKK.out]; rfl, hjl, HST2.out, HFS9.out, by rw [HOL'.out]; exact own_same HR9.out (fun z hz => Below.heap_setCell _ _ _ _ (fun (x : z = w.heap.size) => HNAB5.out (x ▸ hz))), HNAB5.out, (Below.heap_setCell _ _ _ _ HNAB.out).trans HB9.out, rfl⟩
                  · obtain rfl : j = d.hi - d.lo := by omega
                    obtain rfl : kk = d.hi := by have := HLO.out; have := HKK.out; omega
                    have HCL := Lib.hid HKJ.out.close
                    go_wp2_with fail
                    go_roundg g1
                    case measure => have := HG1.out; have := HPOS.out; omega
                    case rel => exact ⟨A', O', _, rfl, by have := HG1.out; have := HST3.out; omega, HCL.out, HFS5.out, HROW5.out, HNAB5.out⟩
end Go.Proofs.Ytgambiohchcfdaa
namespace Go.Proofs.Ytgambiohchcfdaa
open Go Go.RowKit
open Tp (T)
open Ug (Of Rt)
/-- Between two rounds, but for the stack. -/
structure CmS (B gb mb n0 : Nat) (a b : T) (w : World) (H : List GNd) (F : Ug.Fi) (v : Value) (n : Nat) (O : List (T × T)) (wr : World) : Prop where
  cmp : Ug.Cmp a b H F O
  gv : GV B gb (.map (some mb)) v wr H
  vat : VAt wr mb n F
  nl : n ≤ H.length
  keep : Kp w.heap.size (fun z => z = gb ∨ z = mb) w wr
  vown : ∀ z, v.ownBlock = some z → w.heap.size ≤ z
/-- .. and the stack. -/
structure CmR (n0 : Nat) (w : World) (R : List En3) (v7 : Value) (wr : World) : Prop where
  each : ∀ e ∈ R, e.lie n0 wr
  row : wr.ownsRow w.heap.size 82 6 v7 R.length (st3Cells R.reverse)
theorem CmS.block {B gb mb n0 : Nat} {a b : T} {w : World} {H : List GNd} {F : Ug.Fi} {v : Value} {n : Nat} {O : List (T × T)} {wr w' : World} (h : CmS B gb mb n0 a b w H F v n O wr) (hk : Kp wr.heap.size (fun _ => False) wr w') : CmS B gb mb n0 a b w H F v n O w' :=
  ⟨h.cmp, h.gv.same (hk.block gb (Array.getElem?_eq_some_iff.1 h.gv.box).1 (fun h => h)) (fun z hz => hk.block z (arm_low h.gv z hz) (fun h => h)), h.vat.same (hk.block mb h.vat.lt (fun h => h)), h.nl, h.keep.trans (hk.mono h.keep.size (fun _ _ h => h.elim)), h.vown⟩
theorem CmR.block {n0 : Nat} {w : World} {R : List En3} {v7 : Value} {wr w' : World} (h : CmR n0 w R v7 wr) (hn : n0 ≤ wr.heap.size) (hk : Kp wr.heap.size (fun _ => False) wr w') : CmR n0 w R v7 w' :=
  ⟨fun e he => (h.each e he).same (fun z hz => hk.block z (by omega) (fun h => h)), own_same h.row (fun z hz => hk.block z (h.row.lt z hz).2 (fun h => h))⟩
/-- What turns the graph alone leaves the stack. -/
theorem CmR.graph {B gb mb n0 : Nat} {m v : Value} {w : World} {R : List En3} {v7 : Value} {wr w' : World} {H : List GNd} {F : Ug.Fi} {n : Nat} (h : CmR n0 w R v7 wr) (hn : n0 ≤ B) (hB : B ≤ mb) (hg : GV B gb m v wr H) (hv : VAt wr mb n F) (hk : Kp wr.heap.size (AdM gb mb v) wr w') : CmR n0 w R v7 w' := by
  have hvl : ∀ z, v.ownBlock = some z → B ≤ z := fun z hz => by obtain ⟨G, _, hown⟩ := hg.row; exact (hown.lt z hz).1
  have hglt := (Array.getElem?_eq_some_iff.1 hg.box).1
  have hlo := hg.lo
  refine ⟨fun e he => (h.each e he).same (fun z hz => hk.block z (by omega) (fun hM => ?_)), own_same h.row (fun z hz => ?_)⟩
  · rcases hM with rfl | rfl | hM
    · omega
    · omega
    · have := hvl z hM; omega
  · obtain ⟨h1, A, h2⟩ := own_block h.row hz
    refine hk.block z h1 (fun hM => ?_)
    rcases hM with rfl | rfl | hM
    · exact own_ne h.row hg.box (by decide) hz
    · obtain ⟨o, ho, hno⟩ := vat_block hv
      rw [h2] at ho; injection ho with ho; exact hno _ _ ho.symm
    · obtain ⟨G, _, hown⟩ := hg.row
      exact gv_far hown h2 (fun A h => by injection h with _ h; exact absurd h (by decide)) hM
theorem csz_less {x y : T} {O : List (T × T)} : Ug.csz O < Ug.csz ((x, y) :: O) := by
  have h1 := Tp.size_pos x
  rw [Ug.csz_cons]; dsimp only; omega
theorem csz_kids {x y : T} {O : List (T × T)} (h : x.kids.length = y.kids.length) : Ug.csz (Ug.kq x y ++ O) < Ug.csz ((x, y) :: O) := by
  rw [Ug.csz_append, Ug.csz_kq h, Ug.csz_cons]
  have h2 : Tp.size x = Tp.sizes x.kids + 1 := by cases x; rfl
  have h3 : Tp.size y = Tp.sizes y.kids + 1 := by cases y; rfl
  dsimp only; omega
theorem csz_len : ∀ R : List En3, R.length ≤ Ug.csz (R.map En3.key)
  | [] => by simp
  | e :: R => by
    have ih := csz_len R
    have := Tp.size_pos (En3.key e).1
    rw [List.map_cons, Ug.csz_cons, List.length_cons]; omega
theorem CmS.stack {B gb mb n0 g : Nat} {a b : T} {w : World} {H : List GNd} {F : Ug.Fi} {v : Value} {n : Nat} {O : List (T × T)} {wr w' : World} {A : Array Value} (h : CmS B gb mb n0 a b w H F v n O wr) (hgA : wr.heap[g]? = some (.cells A 82)) (hge : w.heap.size ≤ g) (hk : Kp wr.heap.size (fun z => some g = some z) wr w') : CmS B gb mb n0 a b w H F v n O w' := by
  refine ⟨h.cmp, h.gv.same (hk.block gb (Array.getElem?_eq_some_iff.1 h.gv.box).1 (fun e => ?_)) (fun z hz => hk.block z (arm_low h.gv z hz) (fun e => ?_)), h.vat.same (hk.block mb h.vat.lt (fun e => ?_)), h.nl, h.keep.trans (hk.mono h.keep.size (fun z hz e => ?_)), h.vown⟩
  · injection e with e; have := h.gv.box; rw [← e, hgA] at this; injection this with this; injection this with _ this; exact absurd this (by decide)
  · injection e with e
    obtain ⟨G, _, hown⟩ := h.gv.row
    exact gv_far hown (e ▸ hgA) (fun A h => by injection h with _ h; exact absurd h (by decide)) hz
  · injection e with e
    obtain ⟨o, ho, hno⟩ := vat_block h.vat
    rw [← e, hgA] at ho; injection ho with ho; exact hno _ _ ho.symm
  · injection e with e; omega
theorem CmS.next {B gb mb n0 : Nat} {a b : T} {w : World} {H : List GNd} {F : Ug.Fi} {v : Value} {n : Nat} {O O' : List (T × T)} {wr : World} (h : CmS B gb mb n0 a b w H F v n O wr) (hc : Ug.Cmp a b H F O') : CmS B gb mb n0 a b w H F v n O' wr := ⟨hc, h.gv, h.vat, h.nl, h.keep, h.vown⟩
/-- A pair's box stays where the graph alone is turned. -/
theorem cb_keep {B gb mb n cb : Nat} {m v : Value} {w w' : World} {H : List GNd} {F : Ug.Fi} {A : Array Value} (hg : GV B gb m v w H) (hv : VAt w mb n F) (hb : w.heap[cb]? = some (.cells A 82)) (hk : Kp w.heap.size (AdM gb mb v) w w') : w'.heap[cb]? = w.heap[cb]? := by
  refine hk.block cb (Array.getElem?_eq_some_iff.1 hb).1 (fun hM => ?_)
  rcases hM with rfl | rfl | hM
  · have := hg.box; rw [hb] at this; injection this with this; injection this with _ this; exact absurd this (by decide)
  · obtain ⟨o, ho, hno⟩ := vat_block hv
    rw [hb] at ho; injection ho with ho; exact hno _ _ ho.symm
  · obtain ⟨G, _, hown⟩ := hg.row
    exact gv_far hown hb (fun A h => by injection h with _ h; exact absurd h (by decide)) hM
/-- A block stays. -/
structure Rcb (cb : Nat) (p q : World) : Prop where
  size : p.heap.size ≤ q.heap.size
  blk : q.heap[cb]? = p.heap[cb]?
theorem adm_low {B gb mb z : Nat} {m v : Value} {w : World} {H : List GNd} (hg : GV B gb m v w H) (hB : B ≤ mb) (hM : AdM gb mb v z) (hz : z < B) : False := by
  have := hg.lo
  rcases hM with rfl | rfl | hM
  · omega
  · omega
  · obtain ⟨G, _, hown⟩ := hg.row; have := (hown.lt z hM).1; omega
theorem adm_keep {gb mb n : Nat} {v : Value} {a b : World} (hk : Kp a.heap.size (AdM gb mb v) a b) (hn : n ≤ a.heap.size) (hv : ∀ z, v.ownBlock = some z → n ≤ z) : Kp n (fun z => z = gb ∨ z = mb) a b :=
  hk.mono hn (fun z hz hM => by
    rcases hM with rfl | rfl | hM
    · exact .inl rfl
    · exact .inr rfl
    · have := hv z hM; omega)
theorem vown_two {n m : Nat} {v v' : Value} (h : ∀ z, v'.ownBlock = some z → m ≤ z ∨ v.ownBlock = some z) (hm : n ≤ m) (hv : ∀ z, v.ownBlock = some z → n ≤ z) : ∀ z, v'.ownBlock = some z → n ≤ z := fun z hz => (h z hz).elim (fun h => Nat.le_trans hm h) (hv z)
theorem add_full {H : List GNd} {F : Ug.Fi} {o : Int} {t : T} {l : List T} {H' : List GNd} {F' : Ug.Fi} (h : Ug.Add H F o t l.length l H' F') : H'.length = H.length + Tp.size t ∧ Ug.Wf H' H'.length := by
  have h1 := h.size
  rw [List.drop_length] at h1
  simp only [Tp.sizes] at h1
  have h2 := h.len
  refine ⟨by omega, ?_⟩
  rw [h2]; exact h.wf
def CmPost (B gb mb : Nat) (a b : T) (w : World) (e : Ending) (w' : World) : Prop := Kp w.heap.size (fun z => z = gb ∨ z = mb) w w' ∧ ∃ r, e = .returned (.bool r) ∧
  (r = true → ∃ H F v, Ug.Cmp a b H F [] ∧ GV B gb (.map (some mb)) v w' H ∧ ∀ z, v.ownBlock = some z → w.heap.size ≤ z) ∧ (r = false → ¬ ∃ s, Ug.Clos s ∧ Tp.below (Tp.app (s 0) a) (Tp.app (s 1) b) = true)
set_option maxRecDepth 100000 in
set_option maxHeartbeats 8000000 in
theorem compare_any (B gb mb n0 : Nat) (a b : T) (aa : Option Addr) (ac : Nat) (ba : Option Addr) (bc : Nat) (w : World) (h : GV B gb (.map (some mb)) (.slice none 0 0) w []) (hm : VAt w mb 0 (fun _ _ => none)) (hmB : B ≤ mb) (hnB : n0 ≤ B) (ha : Tp.right a = true) (hb : Tp.right b = true)
    (hta : TyAt (LT n0) w a aa ac) (htb : TyAt (LT n0) w b ba bc) (hsz : Tp.size a + Tp.size b ≤ 1000000) :
    Calls Try.prog 41 #[.pointer (some ⟨gb, 0, none⟩), tv a aa ac, tv b ba bc] w (CmPost B gb mb a b w) := by
  obtain ⟨ak, an, am, hva⟩ := TV.mk a
  obtain ⟨bk, bn, bm, hvb⟩ := TV.mk b
  rw [tv_of hva, tv_of hvb]
  have hgl : gb < w.heap.size := (Array.getElem?_eq_some_iff.1 h.box).1
  have hBw : B ≤ w.heap.size := Nat.le_trans h.lo (Nat.le_of_lt hgl)
  obtain ⟨W3, hW3⟩ : ∃ W, ((w.alloc (.cells #[.int .i64 ak, .int .i64 an, .slice aa am ac] 24)).alloc (.cells #[.int .i64 bk, .int .i64 bn, .slice ba bm bc] 24)).alloc
        (.cells #[.int .i64 ak, .int .i64 an, .slice aa am ac, .int .i64 bk, .int .i64 bn, .slice ba bm bc] 82) = W := ⟨_, rfl⟩
  have hk3 : Kp w.heap.size (fun _ => False) w W3 := by rw [← hW3]; exact (((Kp.refl _ _ _).alloc (Nat.le_refl _) _).alloc (by simp) _).alloc (by simp; omega) _
  have hx3 : W3.heap[w.heap.size + 1 + 1]? = some (.cells #[.int .i64 ak, .int .i64 an, .slice aa am ac, .int .i64 bk, .int .i64 bn, .slice ba bm bc] 82) := by
    have := World.alloc_heap_new ((w.alloc (.cells #[.int .i64 ak, .int .i64 an, .slice aa am ac] 24)).alloc (.cells #[.int .i64 bk, .int .i64 bn, .slice ba bm bc] 24)) (.cells #[.int .i64 ak, .int .i64 an, .slice aa am ac, .int .i64 bk, .int .i64 bn, .slice ba bm bc] 82)
    rw [World.size_alloc, World.size_alloc, hW3] at this; exact this
  have hs3 : CmS B gb mb n0 a b w [] (fun _ _ => none) (.slice none 0 0) 0 [(a, b)] W3 := by
    refine CmS.block ⟨Ug.Cmp.start ha hb, h, hm, Nat.zero_le _, Kp.refl _ _ _, fun z hz => by cases hz⟩ hk3
  have hr3 : CmR n0 w [⟨a, aa, ac, b, ba, bc⟩] (.slice (some ⟨w.heap.size + 1 + 1, 0, none⟩) 1 1) W3 := by
    refine ⟨fun e he => ?_, ?_⟩
    · obtain rfl := List.mem_singleton.1 he
      exact En3.lie.same (w := w) ⟨hta, htb⟩ (fun z hz => hk3.block z (by omega) (fun h => h))
    · have := own_mk (B := w.heap.size) (sz := 6) (n := 1) (cap := 1) hx3 (by omega) (Nat.le_refl _) (by unfold maxLen; omega) rfl
      simp only [st3Cells, en3Cells, List.reverse_singleton, List.flatMap_cons, List.flatMap_nil, hva.1, hva.2.1, hva.2.2, hvb.1, hvb.2.1, hvb.2.2]
      exact this
  have HS3 := Lib.hid hs3; have HR3 := Lib.hid hr3; have HW3 := Lib.hid hW3; have HGL := Lib.hid hgl; have HBW := Lib.hid hBw; have HMB := Lib.hid hmB; have HNB := Lib.hid hnB; have HSZ := Lib.hid hsz; have HLO := Lib.hid h.lo; have HML := Lib.hid hm.lt
  clear hs3 hr3 hW3 hgl hBw hmB hnB hsz hk3 hx3 h hm ha hb hta htb hva hvb
  go_enter Try.func41, Try.ntmps41
  go_upto_region 2 with fail
  rw [HW3.out]
  go_loopg [7] (Ug.csz [(a, b)]) (fun gk v7 wr => ∃ (R : List En3) (H : List GNd) (F : Ug.Fi) (v : Value) (n : Nat), CmS B gb mb n0 a b w H F v n (R.map En3.key) wr ∧ CmR n0 w R v7 wr ∧ gk = Ug.csz (R.map En3.key))
  case atStart => exact ⟨_, _, _, _, _, HS3.out, HR3.out, rfl⟩
  case round =>
    obtain ⟨R, H, F, v, n, hs, hr, rfl⟩ := hrel
    have HS := Lib.hid hs; have HRR := Lib.hid hr
    clear hs hr HS3 HR3
    cases R with
    | nil =>
      obtain ⟨av, cv, rfl⟩ := own_shapeT HRR.out.row
      go_wp2_with fail
      go_ret
      exact ⟨HS.out.keep, true, rfl, fun _ => ⟨H, F, v, HS.out.cmp, HS.out.gv, HS.out.vown⟩, fun h => by cases h⟩
    | cons e R =>
      obtain ⟨g, cap3, rfl, hg1, hg2, hcp, hcm, hcl, hown⟩ := own_top6 (v := u7) HRR.out.row
      have hgood := HRR.out.each e (by simp)
      obtain ⟨x, xa, xcap, y, ya, ycap⟩ := e
      obtain ⟨hxty, hyty⟩ := id hgood
      obtain ⟨xk, xn, xm, hvx⟩ := TV.mk x
      obtain ⟨yk, yn, ym, hvy⟩ := TV.mk y
      obtain ⟨r, hr⟩ : ∃ z, R.length = z := ⟨_, rfl⟩
      have hx0 := hcl 0 _ rfl; rw [Nat.add_zero] at hx0; have hx1 := hcl 1 _ rfl; have hx2 := hcl 2 _ rfl; have hy0 := hcl 3 _ rfl; have hy1 := hcl 4 _ rfl; have hy2 := hcl 5 _ rfl
      dsimp only at hx0 hx1 hx2 hy0 hy1 hy2 hxty hyty
      rw [hvx.1] at hx0; rw [hvx.2.1] at hx1; rw [hvx.2.2] at hx2; rw [hvy.1] at hy0; rw [hvy.2.1] at hy1; rw [hvy.2.2] at hy2
      rw [hr] at hx0 hx1 hx2 hy0 hy1 hy2 hcp hown ⊢
      have hcmp := HS.out.cmp
      rw [List.map_cons] at hcmp
      change Ug.Cmp a b H F ((x, y) :: R.map En3.key) at hcmp
      have hpop := cp_pop g (r + 1) cap3 r (by omega) hcp
      have hwr : wrap64 (r : Int) = (r : Int) := by unfold wrap64; unfold maxLen at hcm; omega
      obtain ⟨i1, i2⟩ := pt_int (Nat.lt_succ_self r)
      have i3 : (r : Int) < (r : Int) + 1 := Int.lt_succ _
      have hrest : CmR n0 w R (.slice (some ⟨g, 0, none⟩) r cap3) wr := ⟨fun e' he => HRR.out.each e' (List.mem_cons_of_mem _ he), by rw [hr]; exact hown⟩
      have hk2 : Kp wr.heap.size (fun _ => False) wr (wr.alloc (.cells #[.int .i64 xk, .int .i64 xn, .slice xa xm xcap, .int .i64 yk, .int .i64 yn, .slice ya ym ycap] 82)) := (Kp.refl _ _ _).alloc (Nat.le_refl _) _
      have hnw : n0 ≤ wr.heap.size := by have := HNB.out; have := HBW.out; have := HS.out.keep.size; omega
      have hs2 := HS.out.block hk2
      have hr2 := hrest.block hnw hk2
      have hx2' : (wr.alloc (.cells #[.int .i64 xk, .int .i64 xn, .slice xa xm xcap, .int .i64 yk, .int .i64 yn, .slice ya ym ycap] 82)).heap[wr.heap.size]? = some (.cells #[.int .i64 xk, .int .i64 xn, .slice xa xm xcap, .int .i64 yk, .int .i64 yn, .slice ya ym ycap] 82) := World.alloc_heap_new _ _
      have hty2 : TyAt (LT n0) (wr.alloc (.cells #[.int .i64 xk, .int .i64 xn, .slice xa xm xcap, .int .i64 yk, .int .i64 yn, .slice ya ym ycap] 82)) x xa xcap ∧ TyAt (LT n0) (wr.alloc (.cells #[.int .i64 xk, .int .i64 xn, .slice xa xm xcap, .int .i64 yk, .int .i64 yn, .slice ya ym ycap] 82)) y ya ycap :=
        ⟨ty_same (fun z hz => hk2.block z (Nat.lt_of_lt_of_le hz hnw) (fun h => h)) (fun _ h => h) hxty, ty_same (fun z hz => hk2.block z (Nat.lt_of_lt_of_le hz hnw) (fun h => h)) (fun _ h => h) hyty⟩
      have HWR := Lib.hid hwr; have HCMP := Lib.hid hcmp; have HR := Lib.hid hr; have HVX := Lib.hid hvx; have HVY := Lib.hid hvy; have HS2 := Lib.hid hs2; have HR2 := Lib.hid hr2; have HX2 := Lib.hid hx2'; have HTY := Lib.hid hty2
      clear hcl hgood hxty hyty hown hg1 hr hvx hvy hcm hcmp hrest hs2 hr2 hx2' hty2 hwr hnw hk2 HRR
      go_upto_region 4 with fail
      rw [HWR.out]
      go_upto_region 5 with fail
      obtain ⟨cb, hcb⟩ : ∃ n, wr.heap.size = n := ⟨_, rfl⟩
      rw [hcb] at HX2 ⊢
      generalize wr.alloc (.cells #[.int .i64 xk, .int .i64 xn, .slice xa xm xcap, .int .i64 yk, .int .i64 yn, .slice ya ym ycap] 82) = W2 at HS2 HR2 HX2 HTY ⊢
      have c0 := cell_box (i := 0) HX2.out rfl rfl
      have c3 := cell_box (i := 3) HX2.out rfl rfl
      clear hx0 hx1 hx2 hy0 hy1 hy2 i1 i2 i3 hcb
      by_cases hd : yk = 5
      · have gd : (yk == 5) = true := by simp [hd]
        have HN := Lib.hid (HS2.out.next (HCMP.out.drop (by rw [HVY.out.1]; exact hd)))
        clear hd
        go_wp2_with fail
        go_roundg (Ug.csz (R.map En3.key))
        case measure => rw [List.map_cons]; exact csz_less
        case rel => exact ⟨R, H, F, v, n, HN.out, by rw [← HR.out] at HR2 ⊢; exact HR2.out, rfl⟩
      · have gd : (yk == 5) = false := by simp [hd]
        by_cases hv6 : xk = 6 ∨ yk = 6
        · have hrx := (HCMP.out.rt (x, y) (by simp)).1
          have hry := (HCMP.out.rt (x, y) (by simp)).2
          dsimp only at hrx hry
          have hsx : Tp.size x ≤ 1000000 ∧ H.length + Tp.size x + Tp.size y ≤ 1000000 := by
            have h1 := HCMP.out.sz
            rw [Ug.csz_cons] at h1
            have h3 := HSZ.out
            dsimp only at h1
            omega
          have HSX := Lib.hid hsx; have HRX := Lib.hid hrx; have HRY := Lib.hid hry; have HV6 := Lib.hid hv6
          have hx6 : (xk == 6) = true ∨ ((xk == 6) = false ∧ (yk == 6) = true) := by
            by_cases h : xk = 6
            · exact .inl (by simp [h])
            · exact .inr ⟨by simp [h], by simp [hv6.resolve_left h]⟩
          have hst9 : W2.heap[cb]? = some (.cells #[.int .i64 xk, .int .i64 xn, .slice xa xm xcap, .int .i64 yk, .int .i64 yn, .slice ya ym ycap] 82) := HX2.out
          clear hsx hrx hry hd hv6
          cases hst : Tp.without 5 x with
          | false =>
            have HSTAT := Lib.hid hst
            have HNW2 := Lib.hid (show n0 ≤ W2.heap.size by have := HNB.out; have := HBW.out; have := HS2.out.keep.size; omega)
            clear hst hst9
            rcases hx6 with h6 | ⟨h6, h6'⟩
            all_goals
              go_upto_region 9 with fail
              clear c0 c3
              refine wp_region_rel (R := Rcb cb) (fun _ => ⟨Nat.le_refl _, rfl⟩) (fun h1 h2 => ⟨Nat.le_trans h1.size h2.size, h2.blk.trans h1.blk⟩) [(0, false), (0, false), (0, true), (0, false), (0, false), (0, false), (0, false), (0, false), (0, false), (1, false), (1, false), (1, false), (0, true), (0, true), (0, true), (0, false), (0, false)] (by kernel_rfl) (by kernel_rfl) (by kernel_rfl) (fun _ _ _ d _ h => by cases d <;> exact h) ?_
              have HBX1 := Lib.hid (show W2.drew.heap[cb]? = some (.cells #[.int .i64 xk, .int .i64 xn, .slice xa xm xcap, .int .i64 yk, .int .i64 yn, .slice ya ym ycap] 82) from HX2.out)
              have HSD := Lib.hid (HS2.out.block (Kp.refl W2.heap.size (fun _ => False) W2).drew)
              have HRD := Lib.hid (HR2.out.block HNW2.out (Kp.refl W2.heap.size (fun _ => False) W2).drew)
              have HTD := Lib.hid (show TyAt (LT n0) W2.drew x xa xcap ∧ TyAt (LT n0) W2.drew y ya ycap from ⟨ty_same (w := W2) (w' := W2.drew) (fun _ _ => rfl) (fun _ h => h) HTY.out.1, ty_same (w := W2) (w' := W2.drew) (fun _ _ => rfl) (fun _ h => h) HTY.out.2⟩)
              have HND := Lib.hid (show n0 ≤ W2.drew.heap.size from HNW2.out)
              generalize W2.drew = wD at HBX1 HSD HRD HTD HND ⊢
              repeat
                first
                | (first | with_reducible refine rp0 (fun K hK => ?_) | with_reducible refine rp1 (fun K hK => ?_) | with_reducible refine rp2 (fun K hK => ?_) | with_reducible refine rp3 (fun K hK => ?_) | with_reducible refine rp4 (fun K hK => ?_)
                   go_simp
                   first
                   | (with_reducible refine hK _ _ ?_; clear hK K)
                   | (with_reducible apply Exists.intro
                      refine ⟨fun x hx => ?_, hK _ _ ?_⟩
                      first
                        | (with_reducible exact rfl)
                        | (have y0 := (cell_box (i := 0) HBX1.out hx.blk rfl); have y1 := (cell_box (i := 1) HBX1.out hx.blk rfl); have y2 := (cell_box (i := 2) HBX1.out hx.blk rfl); have y3 := (cell_box (i := 3) HBX1.out hx.blk rfl); have y4 := (cell_box (i := 4) HBX1.out hx.blk rfl); have y5 := (cell_box (i := 5) HBX1.out hx.blk rfl); go_simp; done)
                        | (have y0 := (cell_box (i := 0) HBX1.out hx.blk rfl); have y1 := (cell_box (i := 1) HBX1.out hx.blk rfl); have y2 := (cell_box (i := 2) HBX1.out hx.blk rfl); have y3 := (cell_box (i := 3) HBX1.out hx.blk rfl); have y4 := (cell_box (i := 4) HBX1.out hx.blk rfl); have y5 := (cell_box (i := 5) HBX1.out hx.blk rfl); go_simp; with_reducible exact rfl)
                      clear hK K))
                | (first | with_reducible refine rk0 ?_ (fun K hK => ?_) | with_reducible refine rk1 ?_ (fun K hK => ?_) | with_reducible refine rk2 ?_ (fun K hK => ?_) | with_reducible refine rk3 ?_ (fun K hK => ?_) | with_reducible refine rk4 ?_ (fun K hK => ?_)
                   rfl
                   go_simp
                   with_reducible refine hK _ _ ?_
                   clear hK K)
              first | with_reducible refine rc0 (fun K hK => ?_) | with_reducible refine rc1 (fun K hK => ?_) | with_reducible refine rc2 (fun K hK => ?_) | with_reducible refine rc3 (fun K hK => ?_) | with_reducible refine rc4 (fun K hK => ?_)
              go_simp
              have hst := static_any x xa xcap wD HSX.out.1 (ty_same (G' := LT wD.heap.size) (fun _ _ => rfl) (fun _ h => Nat.lt_of_lt_of_le h HND.out) HTD.out.1)
              rw [tv_of HVX.out, HSTAT.out] at hst
              refine hst.mono ?_
              rintro e w3 ⟨rfl, hb3⟩
              have hbx3 := (hb3.block cb (Array.getElem?_eq_some_iff.1 HBX1.out).1).trans HBX1.out
              refine ⟨⟨hb3.size, hb3.block cb (Array.getElem?_eq_some_iff.1 HBX1.out).1⟩, hK _ _ ?_⟩
              clear hK K
              have HBX3 := Lib.hid hbx3
              have HK3 := Lib.hid (Kp.of_below (M := fun _ => False) hb3)
              have HS3 := Lib.hid (HSD.out.block HK3.out)
              have HR3 := Lib.hid (HRD.out.block HND.out HK3.out)
              clear hbx3 hb3 hst
              repeat
                first
                | (first | with_reducible refine rp0 (fun K hK => ?_) | with_reducible refine rp1 (fun K hK => ?_) | with_reducible refine rp2 (fun K hK => ?_) | with_reducible refine rp3 (fun K hK => ?_) | with_reducible refine rp4 (fun K hK => ?_)
                   go_simp
                   first
                   | (with_reducible refine hK _ _ ?_; clear hK K)
                   | (with_reducible apply Exists.intro
                      refine ⟨fun x hx => ?_, hK _ _ ?_⟩
                      first
                        | (with_reducible exact rfl)
                        | (have y0 := (cell_box (i := 0) HBX3.out hx.blk rfl); have y1 := (cell_box (i := 1) HBX3.out hx.blk rfl); have y2 := (cell_box (i := 2) HBX3.out hx.blk rfl); have y3 := (cell_box (i := 3) HBX3.out hx.blk rfl); have y4 := (cell_box (i := 4) HBX3.out hx.blk rfl); have y5 := (cell_box (i := 5) HBX3.out hx.blk rfl); go_simp; done)
                        | (have y0 := (cell_box (i := 0) HBX3.out hx.blk rfl); have y1 := (cell_box (i := 1) HBX3.out hx.blk rfl); have y2 := (cell_box (i := 2) HBX3.out hx.blk rfl); have y3 := (cell_box (i := 3) HBX3.out hx.blk rfl); have y4 := (cell_box (i := 4) HBX3.out hx.blk rfl); have y5 := (cell_box (i := 5) HBX3.out hx.blk rfl); go_simp; with_reducible exact rfl)
                      clear hK K))
                | (first | with_reducible refine rk0 ?_ (fun K hK => ?_) | with_reducible refine rk1 ?_ (fun K hK => ?_) | with_reducible refine rk2 ?_ (fun K hK => ?_) | with_reducible refine rk3 ?_ (fun K hK => ?_) | with_reducible refine rk4 ?_ (fun K hK => ?_)
                   rfl
                   go_simp
                   with_reducible refine hK _ _ ?_
                   clear hK K)
              with_reducible refine rel_nil ?_
              have HNO := Lib.hid (HCMP.out.dyn (by rw [HVX.out.1, HVY.out.1]; exact HV6.out) HSTAT.out)
              go_wp2_with fail
              go_ret
              exact ⟨HS3.out.keep, false, rfl, (fun h => by cases h), fun _ => HNO.out⟩
          | true =>
            have HSTAT := Lib.hid hst
            have HNW2 := Lib.hid (show n0 ≤ W2.heap.size by have := HNB.out; have := HBW.out; have := HS2.out.keep.size; omega)
            clear hst hst9
            rcases hx6 with h6 | ⟨h6, h6'⟩
            all_goals
              go_upto_region 9 with fail
              clear c0 c3
              refine wp_region_rel (R := Rcb cb) (fun _ => ⟨Nat.le_refl _, rfl⟩) (fun h1 h2 => ⟨Nat.le_trans h1.size h2.size, h2.blk.trans h1.blk⟩) [(0, false), (0, false), (0, true), (0, false), (0, false), (0, false), (0, false), (0, false), (0, false), (1, false), (1, false), (1, false), (0, true), (0, true), (0, true), (0, false), (0, false)] (by kernel_rfl) (by kernel_rfl) (by kernel_rfl) (fun _ _ _ d _ h => by cases d <;> exact h) ?_
              have HBX1 := Lib.hid (show W2.drew.heap[cb]? = some (.cells #[.int .i64 xk, .int .i64 xn, .slice xa xm xcap, .int .i64 yk, .int .i64 yn, .slice ya ym ycap] 82) from HX2.out)
              have HSD := Lib.hid (HS2.out.block (Kp.refl W2.heap.size (fun _ => False) W2).drew)
              have HRD := Lib.hid (HR2.out.block HNW2.out (Kp.refl W2.heap.size (fun _ => False) W2).drew)
              have HTD := Lib.hid (show TyAt (LT n0) W2.drew x xa xcap ∧ TyAt (LT n0) W2.drew y ya ycap from ⟨ty_same (w := W2) (w' := W2.drew) (fun _ _ => rfl) (fun _ h => h) HTY.out.1, ty_same (w := W2) (w' := W2.drew) (fun _ _ => rfl) (fun _ h => h) HTY.out.2⟩)
              have HND := Lib.hid (show n0 ≤ W2.drew.heap.size from HNW2.out)
              generalize W2.drew = wD at HBX1 HSD HRD HTD HND ⊢
              repeat
                first
                | (first | with_reducible refine rp0 (fun K hK => ?_) | with_reducible refine rp1 (fun K hK => ?_) | with_reducible refine rp2 (fun K hK => ?_) | with_reducible refine rp3 (fun K hK => ?_) | with_reducible refine rp4 (fun K hK => ?_)
                   go_simp
                   first
                   | (with_reducible refine hK _ _ ?_; clear hK K)
                   | (with_reducible apply Exists.intro
                      refine ⟨fun x hx => ?_, hK _ _ ?_⟩
                      first
                        | (with_reducible exact rfl)
                        | (have y0 := (cell_box (i := 0) HBX1.out hx.blk rfl); have y1 := (cell_box (i := 1) HBX1.out hx.blk rfl); have y2 := (cell_box (i := 2) HBX1.out hx.blk rfl); have y3 := (cell_box (i := 3) HBX1.out hx.blk rfl); have y4 := (cell_box (i := 4) HBX1.out hx.blk rfl); have y5 := (cell_box (i := 5) HBX1.out hx.blk rfl); go_simp; done)
                        | (have y0 := (cell_box (i := 0) HBX1.out hx.blk rfl); have y1 := (cell_box (i := 1) HBX1.out hx.blk rfl); have y2 := (cell_box (i := 2) HBX1.out hx.blk rfl); have y3 := (cell_box (i := 3) HBX1.out hx.blk rfl); have y4 := (cell_box (i := 4) HBX1.out hx.blk rfl); have y5 := (cell_box (i := 5) HBX1.out hx.blk rfl); go_simp; with_reducible exact rfl)
                      clear hK K))
                | (first | with_reducible refine rk0 ?_ (fun K hK => ?_) | with_reducible refine rk1 ?_ (fun K hK => ?_) | with_reducible refine rk2 ?_ (fun K hK => ?_) | with_reducible refine rk3 ?_ (fun K hK => ?_) | with_reducible refine rk4 ?_ (fun K hK => ?_)
                   rfl
                   go_simp
                   with_reducible refine hK _ _ ?_
                   clear hK K)
              first | with_reducible refine rc0 (fun K hK => ?_) | with_reducible refine rc1 (fun K hK => ?_) | with_reducible refine rc2 (fun K hK => ?_) | with_reducible refine rc3 (fun K hK => ?_) | with_reducible refine rc4 (fun K hK => ?_)
              go_simp
              have hst := static_any x xa xcap wD HSX.out.1 (ty_same (G' := LT wD.heap.size) (fun _ _ => rfl) (fun _ h => Nat.lt_of_lt_of_le h HND.out) HTD.out.1)
              rw [tv_of HVX.out, HSTAT.out] at hst
              refine hst.mono ?_
              rintro e w3 ⟨rfl, hb3⟩
              have hbx3 := (hb3.block cb (Array.getElem?_eq_some_iff.1 HBX1.out).1).trans HBX1.out
              refine ⟨⟨hb3.size, hb3.block cb (Array.getElem?_eq_some_iff.1 HBX1.out).1⟩, hK _ _ ?_⟩
              clear hK K
              have HBX3 := Lib.hid hbx3
              have HK3 := Lib.hid (Kp.of_below (M := fun _ => False) hb3)
              have HS3 := Lib.hid (HSD.out.block HK3.out)
              have HR3 := Lib.hid (HRD.out.block HND.out HK3.out)
              clear hbx3 hb3 hst
              have HT3 := Lib.hid (show TyAt (LT B) w3 x xa xcap ∧ TyAt (LT n0) w3 y ya ycap from ⟨ty_same (fun z hz => HK3.out.block z (Nat.lt_of_lt_of_le hz HND.out) (fun h => h)) (fun _ h => Nat.lt_of_lt_of_le h HNB.out) HTD.out.1, ty_same (fun z hz => HK3.out.block z (Nat.lt_of_lt_of_le hz HND.out) (fun h => h)) (fun _ h => h) HTD.out.2⟩)
              repeat
                first
                | (first | with_reducible refine rp0 (fun K hK => ?_) | with_reducible refine rp1 (fun K hK => ?_) | with_reducible refine rp2 (fun K hK => ?_) | with_reducible refine rp3 (fun K hK => ?_) | with_reducible refine rp4 (fun K hK => ?_)
                   go_simp
                   first
                   | (with_reducible refine hK _ _ ?_; clear hK K)
                   | (with_reducible apply Exists.intro
                      refine ⟨fun x hx => ?_, hK _ _ ?_⟩
                      first
                        | (with_reducible exact rfl)
                        | (have y0 := (cell_box (i := 0) HBX3.out hx.blk rfl); have y1 := (cell_box (i := 1) HBX3.out hx.blk rfl); have y2 := (cell_box (i := 2) HBX3.out hx.blk rfl); have y3 := (cell_box (i := 3) HBX3.out hx.blk rfl); have y4 := (cell_box (i := 4) HBX3.out hx.blk rfl); have y5 := (cell_box (i := 5) HBX3.out hx.blk rfl); go_simp; done)
                        | (have y0 := (cell_box (i := 0) HBX3.out hx.blk rfl); have y1 := (cell_box (i := 1) HBX3.out hx.blk rfl); have y2 := (cell_box (i := 2) HBX3.out hx.blk rfl); have y3 := (cell_box (i := 3) HBX3.out hx.blk rfl); have y4 := (cell_box (i := 4) HBX3.out hx.blk rfl); have y5 := (cell_box (i := 5) HBX3.out hx.blk rfl); go_simp; with_reducible exact rfl)
                      clear hK K))
                | (first | with_reducible refine rk0 ?_ (fun K hK => ?_) | with_reducible refine rk1 ?_ (fun K hK => ?_) | with_reducible refine rk2 ?_ (fun K hK => ?_) | with_reducible refine rk3 ?_ (fun K hK => ?_) | with_reducible refine rk4 ?_ (fun K hK => ?_)
                   rfl
                   go_simp
                   with_reducible refine hK _ _ ?_
                   clear hK K)
              first | with_reducible refine rc0 (fun K hK => ?_) | with_reducible refine rc1 (fun K hK => ?_) | with_reducible refine rc2 (fun K hK => ?_) | with_reducible refine rc3 (fun K hK => ?_) | with_reducible refine rc4 (fun K hK => ?_)
              go_simp
              have hadd1 := add_any B gb mb n v H F 0 x xa xcap w3 HS3.out.gv HS3.out.vat HMB.out HS3.out.nl HCMP.out.wf HCMP.out.cong HCMP.out.fv HRX.out HT3.out.1 (by have := HSX.out.2; omega) (.inl rfl)
              rw [tv_of HVX.out] at hadd1
              refine hadd1.mono ?_
              rintro e w4 ⟨rfl, v1, H1, F1, l1, n1, had1, hgv1, hvat1, hn1, hkp1, hvo1⟩
              have hcb1 := cb_keep HS3.out.gv HS3.out.vat HBX3.out hkp1
              refine ⟨⟨hkp1.size, hcb1⟩, hK _ _ ?_⟩
              clear hK K
              have HBX4 := Lib.hid (hcb1.trans HBX3.out)
              have HAD1 := Lib.hid had1; have HGV1 := Lib.hid hgv1; have HVAT1 := Lib.hid hvat1; have HN1 := Lib.hid hn1; have HKP1 := Lib.hid hkp1; have HVO1 := Lib.hid hvo1
              have HR4 := Lib.hid (HR3.out.graph HNB.out HMB.out HS3.out.gv HS3.out.vat hkp1)
              have hty4 : TyAt (LT B) w4 y ya ycap := ty_same (fun z hz => hkp1.block z (Nat.lt_of_lt_of_le hz (Nat.le_trans HNB.out (Nat.le_trans HBW.out HS3.out.keep.size))) (fun hM => adm_low HS3.out.gv HMB.out hM (Nat.lt_of_lt_of_le hz HNB.out))) (fun _ h => Nat.lt_of_lt_of_le h HNB.out) HT3.out.2
              have HTY4 := Lib.hid hty4
              clear had1 hgv1 hvat1 hn1 hkp1 hvo1 hcb1 hadd1 hty4
              repeat
                first
                | (first | with_reducible refine rp0 (fun K hK => ?_) | with_reducible refine rp1 (fun K hK => ?_) | with_reducible refine rp2 (fun K hK => ?_) | with_reducible refine rp3 (fun K hK => ?_) | with_reducible refine rp4 (fun K hK => ?_)
                   go_simp
                   first
                   | (with_reducible refine hK _ _ ?_; clear hK K)
                   | (with_reducible apply Exists.intro
                      refine ⟨fun x hx => ?_, hK _ _ ?_⟩
                      first
                        | (with_reducible exact rfl)
                        | (have y0 := (cell_box (i := 0) HBX4.out hx.blk rfl); have y1 := (cell_box (i := 1) HBX4.out hx.blk rfl); have y2 := (cell_box (i := 2) HBX4.out hx.blk rfl); have y3 := (cell_box (i := 3) HBX4.out hx.blk rfl); have y4 := (cell_box (i := 4) HBX4.out hx.blk rfl); have y5 := (cell_box (i := 5) HBX4.out hx.blk rfl); go_simp; done)
                        | (have y0 := (cell_box (i := 0) HBX4.out hx.blk rfl); have y1 := (cell_box (i := 1) HBX4.out hx.blk rfl); have y2 := (cell_box (i := 2) HBX4.out hx.blk rfl); have y3 := (cell_box (i := 3) HBX4.out hx.blk rfl); have y4 := (cell_box (i := 4) HBX4.out hx.blk rfl); have y5 := (cell_box (i := 5) HBX4.out hx.blk rfl); go_simp; with_reducible exact rfl)
                      clear hK K))
                | (first | with_reducible refine rk0 ?_ (fun K hK => ?_) | with_reducible refine rk1 ?_ (fun K hK => ?_) | with_reducible refine rk2 ?_ (fun K hK => ?_) | with_reducible refine rk3 ?_ (fun K hK => ?_) | with_reducible refine rk4 ?_ (fun K hK => ?_)
                   rfl
                   go_simp
                   with_reducible refine hK _ _ ?_
                   clear hK K)
              first | with_reducible refine rc0 (fun K hK => ?_) | with_reducible refine rc1 (fun K hK => ?_) | with_reducible refine rc2 (fun K hK => ?_) | with_reducible refine rc3 (fun K hK => ?_) | with_reducible refine rc4 (fun K hK => ?_)
              go_simp
              obtain ⟨hl1, hwf1⟩ := add_full HAD1.out
              have hadd2 := add_any B gb mb n1 v1 H1 F1 1 y ya ycap w4 HGV1.out HVAT1.out HMB.out HN1.out hwf1 HAD1.out.cong HAD1.out.fv HRY.out HTY4.out (by rw [hl1]; exact HSX.out.2) (.inr rfl)
              rw [tv_of HVY.out] at hadd2
              refine hadd2.mono ?_
              rintro e w5 ⟨rfl, v2, H2, F2, l2, n2, had2, hgv2, hvat2, hn2, hkp2, hvo2⟩
              have hcb2 := cb_keep HGV1.out HVAT1.out HBX4.out hkp2
              refine ⟨⟨hkp2.size, hcb2⟩, hK _ _ ?_⟩
              clear hK K
              have HBX5 := Lib.hid (hcb2.trans HBX4.out)
              have HAD2 := Lib.hid had2; have HGV2 := Lib.hid hgv2; have HVAT2 := Lib.hid hvat2; have HN2 := Lib.hid hn2; have HKP2 := Lib.hid hkp2; have HVO2 := Lib.hid hvo2; have HL1 := Lib.hid hl1
              have HR5 := Lib.hid (HR4.out.graph HNB.out HMB.out HGV1.out HVAT1.out hkp2)
              clear had2 hgv2 hvat2 hn2 hkp2 hvo2 hcb2 hadd2 hl1 hwf1
              first | with_reducible refine rc0 (fun K hK => ?_) | with_reducible refine rc1 (fun K hK => ?_) | with_reducible refine rc2 (fun K hK => ?_) | with_reducible refine rc3 (fun K hK => ?_) | with_reducible refine rc4 (fun K hK => ?_)
              go_simp
              obtain ⟨hl2, hwf2⟩ := add_full HAD2.out
              have hsy := Tp.size_pos y
              have hsx := Tp.size_pos x
              have hl1 := HL1.out
              obtain ⟨G2, rb, cap2, rfl, _, _, hrb1, hrb2, hgrb⟩ := gv_open HGV2.out (by omega)
              have hun := unite_any B gb rb cap2 (.map (some mb)) H2 H.length H1.length w5 HGV2.out hwf2 HAD2.out.cong (by omega) (by omega) (by have := HSX.out.2; omega)
              refine hun.mono ?_
              rintro e w6 ⟨hkp3, ok, rfl, hyes, hno⟩
              have hkp3' : Kp w5.heap.size (AdM gb mb (.slice (some ⟨rb, 0, none⟩) H2.length cap2)) w5 w6 := hkp3.mono (Nat.le_refl _) (fun z _ hz => .inr (.inr (by rw [hz]; rfl)))
              have hcb3 := cb_keep HGV2.out HVAT2.out HBX5.out hkp3'
              refine ⟨⟨hkp3.size, hcb3⟩, hK _ _ ?_⟩
              clear hK K
              have HR6 := Lib.hid (HR5.out.graph HNB.out HMB.out HGV2.out HVAT2.out hkp3')
              have hmr : mb ≠ rb := fun h => by
                obtain ⟨om, ho, hn⟩ := vat_block HVAT2.out
                obtain ⟨_, A, hA⟩ := own_block HGV2.out.row.choose_spec.2 (z := rb) rfl
                rw [h, hA] at ho; injection ho with ho; exact hn _ _ ho.symm
              have HVAT3 := Lib.hid (HVAT2.out.same (hkp3.block mb HVAT2.out.lt hmr))
              have hkp6 : Kp w.heap.size (fun z => z = gb ∨ z = mb) w w6 := ((HS3.out.keep.trans (adm_keep HKP1.out HS3.out.keep.size HS3.out.vown)).trans (adm_keep HKP2.out (Nat.le_trans HS3.out.keep.size HKP1.out.size) (vown_two HVO1.out HS3.out.keep.size HS3.out.vown))).trans (adm_keep hkp3' (Nat.le_trans (Nat.le_trans HS3.out.keep.size HKP1.out.size) HKP2.out.size) (vown_two HVO2.out (Nat.le_trans HS3.out.keep.size HKP1.out.size) (vown_two HVO1.out HS3.out.keep.size HS3.out.vown)))
              have HVOF := Lib.hid (vown_two HVO2.out (Nat.le_trans HS3.out.keep.size HKP1.out.size) (vown_two HVO1.out HS3.out.keep.size HS3.out.vown))
              have HKP6 := Lib.hid hkp6; have HYES := Lib.hid hyes; have HNOT := Lib.hid hno
              clear hkp3 hkp3' hkp6 hyes hno hcb3 hun hmr hrb1 hrb2 hgrb hl1 hl2 hsx hsy hwf2
              repeat
                first
                | (first | with_reducible refine rp0 (fun K hK => ?_) | with_reducible refine rp1 (fun K hK => ?_) | with_reducible refine rp2 (fun K hK => ?_) | with_reducible refine rp3 (fun K hK => ?_) | with_reducible refine rp4 (fun K hK => ?_)
                   go_simp
                   first
                   | (with_reducible refine hK _ _ ?_; clear hK K)
                   | (with_reducible apply Exists.intro
                      refine ⟨fun x hx => ?_, hK _ _ ?_⟩
                      first
                        | (with_reducible exact rfl)
                      clear hK K))
                | (first | with_reducible refine rk0 ?_ (fun K hK => ?_) | with_reducible refine rk1 ?_ (fun K hK => ?_) | with_reducible refine rk2 ?_ (fun K hK => ?_) | with_reducible refine rk3 ?_ (fun K hK => ?_) | with_reducible refine rk4 ?_ (fun K hK => ?_)
                   rfl
                   go_simp
                   with_reducible refine hK _ _ ?_
                   clear hK K)
              with_reducible refine rel_nil ?_
              cases ok with
              | false =>
                have HNO := Lib.hid (HCMP.out.no HSTAT.out HAD1.out HAD2.out (HNOT.out rfl))
                go_wp2_with fail
                go_ret
                exact ⟨HKP6.out, false, rfl, (fun h => by cases h), fun _ => HNO.out⟩
              | true =>
                obtain ⟨H3, hu3, hg3⟩ := HYES.out rfl
                have hcm3 := HCMP.out.yes HSTAT.out HAD1.out HAD2.out hu3
                have HCM3 := Lib.hid hcm3; have HG3 := Lib.hid hg3; have HL3 := Lib.hid hu3.len
                clear hu3 hg3 hcm3
                go_wp2_with fail
                go_roundg (Ug.csz (R.map En3.key))
                case measure => exact csz_less
                case rel => exact ⟨R, H3, F2, _, n2, ⟨HCM3.out, HG3.out, HVAT3.out, by rw [HL3.out]; exact HN2.out, HKP6.out, HVOF.out⟩, by rw [← HR.out] at HR6 ⊢; exact HR6.out, rfl⟩
        · have g6 : (xk == 6) = false := by simp; exact fun h => hv6 (.inl h)
          have g6' : (yk == 6) = false := by simp; exact fun h => hv6 (.inr h)
          by_cases hk : xk = yk
          · have gk : (xk != yk) = false := by simp [hk]
            have gk' : (xk == yk) = true := by simp [hk]
            obtain ⟨hlk, hnx⟩ := HCMP.out.kids (by rw [HVY.out.1]; exact hd) (by rw [HVX.out.1]; exact fun h => hv6 (.inl h)) (by rw [HVY.out.1]; exact fun h => hv6 (.inr h)) (by rw [HVX.out.1, HVY.out.1]; exact hk)
            have hlm : xm = ym := by rw [← HVX.out.2.2, ← HVY.out.2.2]; exact hlk
            have HNX := Lib.hid hnx; have HLK := Lib.hid hlk
            have hxm2 : xm ≤ 2 := by
              have h1 := (HCMP.out.rt (x, y) (by simp)).1
              have h2 : Tp.arity x.kind = x.kids.length := by dsimp only at h1; cases x; exact (Tp.right_node h1).1
              have h3 := arity_le x.kind
              rw [HVX.out.2.2] at h2
              omega
            have hrl : r + xm ≤ 4 * 1000000 := by
              have h1 := HCMP.out.sz
              have h2 := csz_len R
              rw [HR.out] at h2
              rw [Ug.csz_cons] at h1
              have h3 := HSZ.out
              omega
            subst hlm
            have hcall := addKids_any w.heap.size n0 x y xa xcap ya ycap xk xn yk yn xm R (some ⟨g, 0, none⟩) cap3 W2 HVX.out HVY.out (by have h := HR2.out.row; rw [← HR.out] at h; exact h) HTY.out.1 HTY.out.2 (Nat.le_trans HNB.out HBW.out) HS2.out.keep.size (by rw [HR.out]; exact hrl)
            rw [HR.out] at hcall
            have HCALL := Lib.hid hcall
            have hcA := own_block HR2.out.row rfl
            have HCA := Lib.hid hcA
            have HG1 := Lib.hid (HR2.out.row.lt g rfl).1
            have c1 := cell_box (i := 1) HX2.out rfl rfl
            have c2 := cell_box (i := 2) HX2.out rfl rfl
            have c4 := cell_box (i := 4) HX2.out rfl rfl
            have c5 := cell_box (i := 5) HX2.out rfl rfl
            clear hcall hcA hrl hxm2 hnx hlk hd hv6 hk
            go_wp2_with (go_at_call 58; refine HCALL.out.mono ?_; clear c0 c1 c2 c3 c4 c5; rintro e9 w9 ⟨v9, E, rfl, hak⟩; have HAK := Lib.hid hak; clear hak)
            have hEl : E.map En3.key = Ug.kq x y := by
              have := HAK.out.laid
              unfold Laid at this
              rw [this, List.take_of_length_le (by rw [List.length_zip, HVX.out.2.2, HVY.out.2.2]; omega)]; rfl
            have hmap : (E ++ R).map En3.key = Ug.kq x y ++ R.map En3.key := by rw [List.map_append, hEl]
            obtain ⟨A9, hA9⟩ := HCA.out.2
            have hs9 := (HS2.out.stack hA9 HG1.out HAK.out.keep).next HNX.out
            go_roundg (Ug.csz ((E ++ R).map En3.key))
            case measure => rw [hmap]; exact csz_kids HLK.out
            case rel =>
              refine ⟨E ++ R, H, F, v, n, by rw [hmap]; exact hs9, ⟨fun e he => ?_, by rw [List.length_append]; exact HAK.out.own⟩, rfl⟩
              rcases List.mem_append.1 he with he | he
              · exact HAK.out.each e he
              · exact (HR2.out.each e he).same (fun z hz => HAK.out.keep.block z (by have := HNB.out; have := HBW.out; have := HS2.out.keep.size; omega) (fun e => by injection e with e; dsimp only at e; have := HG1.out; have := HNB.out; have := HBW.out; omega))
          · have gk : (xk != yk) = true := by simp [hk]
            have gk' : (xk == yk) = false := by simp [hk]
            have HNO := Lib.hid (HCMP.out.kinds (by rw [HVY.out.1]; exact hd) (by rw [HVX.out.1]; exact fun h => hv6 (.inl h)) (by rw [HVY.out.1]; exact fun h => hv6 (.inr h)) (by rw [HVX.out.1, HVY.out.1]; exact hk))
            clear hd hv6 hk
            go_wp2_with fail
            go_ret
            exact ⟨HS2.out.keep, false, rfl, (fun h => by cases h), fun _ => HNO.out⟩
end Go.Proofs.Ytgambiohchcfdaa
namespace Go.Proofs.Ytgambiohchcfdaa
open Go Go.RowKit
open Tp (T)
open Ug (Of Rt)
set_option maxRecDepth 100000 in
theorem sright_any {t : T} {k n : Int} {m : Nat} {a : Option Addr} {c : Nat} {w : World} (hv : TV t k n m) (ht : TyAt (LT w.heap.size) w t a c) (hs : Tp.size t ≤ 1000000) :
    Calls Try.prog 37 #[.agg #[.int .i64 k, .int .i64 n, .slice a m c]] w fun e w' => e = .returned (.bool (Tp.right t)) ∧ Below w.heap.size w w' := by
  obtain ⟨W1, hW1⟩ : ∃ W, w.alloc (.cells #[.int .i64 k, .int .i64 n, .slice a m c] 24) = W := ⟨_, rfl⟩
  have hb1 : Below w.heap.size w W1 := by rw [← hW1]; exact (Below.refl _ _).alloc (Nat.le_refl _) _
  have hbx : BoxT W1 w.heap.size t k n m a c := ⟨hv, by rw [← hW1]; exact World.alloc_heap_new w _, ty_later ht hb1⟩
  have hc := ck_any hbx.says hbx.ty hs
  obtain ⟨c0, c1, c2⟩ := hbx.cells
  obtain ⟨r, hr⟩ : ∃ r, Tp.right t = r := ⟨_, rfl⟩
  rw [hr] at hc ⊢
  have HC := Lib.hid hc; have HW1 := Lib.hid hW1; have HB1 := Lib.hid hb1
  clear hc hW1 hb1 hbx hv ht hs hr
  go_enter Try.func37, Try.ntmps37
  go_upto_region 1 with fail
  rw [HW1.out]
  go_wp2_with fail
  refine HC.out.mono ?_
  clear c0 c1 c2
  rintro e w2 ⟨rfl, hb⟩
  have HB2 := Lib.hid (HB1.out.tr hb (Nat.le_refl _)); clear hb
  cases r with
  | true =>
    have h0 : errOf true = 0 := rfl
    rw [h0]
    go_wp2_with fail
    go_ret
    exact ⟨rfl, HB2.out⟩
  | false =>
    have h0 : errOf false = 1 := rfl
    rw [h0]
    go_wp2_with fail
    go_ret
    exact ⟨rfl, HB2.out⟩
theorem fin_zero_sol : ∃ f, Ug.Good f ∧ Ug.Sol ([] : List GNd) f := ⟨fun _ => .mk 1 0 [], fun _ => Ug.ok_int, fun p d hd => by simp at hd⟩
set_option maxRecDepth 100000 in
set_option maxHeartbeats 4000000 in
theorem finite_zero (B gb : Nat) (m : Value) (va : Option Addr) (vc : Nat) (w : World) (h : GV B gb m (.slice va 0 vc) w []) :
    Calls Try.prog 42 #[.pointer (some ⟨gb, 0, none⟩)] w (FiPost (.slice va 0 vc) [] w) := by
  have hgs : gb < w.heap.size := (Array.getElem?_eq_some_iff.1 h.box).1
  obtain ⟨i0, hi, hz0, hz1, hz2⟩ := info_parts info_in1
  obtain ⟨W1, hmk, _, hg1⟩ := run_make_full (P := Try.prog) w w.heap.size 46 3 i0 (.int .i64 0) 1 Try.underlying46 hi hz0 hz1 .i64 .i64 0 (by omega) (by unfold maxLen; omega) (Nat.le_refl _)
  have hkp : Kp w.heap.size (fun z => (Value.slice va 0 vc).ownBlock = some z) w W1 := (Kp.refl _ _ _).grown hg1 (Nat.le_refl _) (fun k h => by cases h)
  have cb : w.cell? ⟨gb, 0, none⟩ = some (.slice va 0 vc) := cell_box h.box rfl rfl
  have cb1 : W1.cell? ⟨gb, 0, none⟩ = some (.slice va 0 vc) := cell_box ((hg1.block gb hgs (by simp)).trans h.box) rfl rfl
  have HKP := Lib.hid hkp
  have HC1 := Lib.hid cb1
  simp only [Int.natCast_zero] at hmk
  clear hkp hg1 hi hz0 hz1 hz2 h
  go_enter Try.func42, Try.ntmps42
  go_wp2_with fail
  clear cb hmk
  go_loopg [4, 26] 0 (fun gk v4 v26 wr => v4 = .int .i64 0 ∧ v26 = .int .i64 0 ∧ wr = W1 ∧ gk = 0)
  case atStart => exact ⟨rfl, rfl, rfl, rfl⟩
  case round =>
    obtain ⟨rfl, rfl, rfl, rfl⟩ := hrel
    go_wp2_with fail
    go_loopg [8, 59] 0 (fun gk v8 v59 wx => v8 = .slice none 0 0 ∧ v59 = .int .i64 0 ∧ wx = wr ∧ gk = 0)
    case atStart => exact ⟨rfl, rfl, rfl, rfl⟩
    case round =>
      obtain ⟨rfl, rfl, rfl, rfl⟩ := hrel
      go_wp2_with fail
      go_loopg [4, 8] 0 (fun gk v4 v8 wx => v4 = .int .i64 0 ∧ v8 = .slice none 0 0 ∧ wx = wr ∧ gk = 0)
      case atStart => exact ⟨rfl, rfl, rfl, rfl⟩
      case round =>
        obtain ⟨rfl, rfl, rfl, rfl⟩ := hrel
        go_wp2_with fail
        go_ret
        exact ⟨true, rfl, ⟨fun _ => fin_zero_sol, fun _ => rfl⟩, HKP.out⟩
end Go.Proofs.Ytgambiohchcfdaa
namespace Go.Proofs.Ytgambiohchcfdaa
open Go Go.RowKit
open Tp (T)
open Ug (Of Rt)
def UnB (r r' : Bool) (t u : T) (w : World) (e : Ending) (w' : World) : Prop := ∃ z, e = .returned (.bool z) ∧ (z = true ↔ r = true ∧ r' = true ∧ Tp.Und t u) ∧ Below w.heap.size w w'
def UnPost (t u : T) (w : World) : Ending → World → Prop := UnB (Tp.right t) (Tp.right u) t u w
theorem fin_after {B gb n0 : Nat} {m : Value} {t u : T} {W6 w7 : World} (hn6 : n0 ≤ W6.heap.size) (hn : n0 ≤ w7.heap.size) (hs : Tp.size t + Tp.size u ≤ 1000000) (h : ∃ H F v, Ug.Cmp t u H F [] ∧ GV B gb m v w7 H ∧ ∀ z, v.ownBlock = some z → W6.heap.size ≤ z) :
    Calls Try.prog 42 #[.pointer (some ⟨gb, 0, none⟩)] w7 fun e w' => ∃ z, e = .returned (.bool z) ∧ (z = true ↔ ∃ s, Ug.Clos s ∧ Tp.below (Tp.app (s 0) t) (Tp.app (s 1) u) = true) ∧ Below n0 w7 w' := by
  obtain ⟨H, F, v, hcm, hgv, hvo⟩ := h
  have hL : ∃ va vc, v = .slice va H.length vc := by
    obtain ⟨G, h1, h2⟩ := hgv.row
    obtain ⟨va, vc, h3⟩ := own_shapeT h2
    exact ⟨va, vc, by rw [h3, h1.len]⟩
  obtain ⟨va, vc, rfl⟩ := hL
  have hfin : Calls Try.prog 42 #[.pointer (some ⟨gb, 0, none⟩)] w7 (FiPost (.slice va H.length vc) H w7) := by
    cases H with
    | nil => exact finite_zero _ _ _ va vc w7 hgv
    | cons d H =>
      obtain ⟨_, rb, cp, hv, _⟩ := gv_open hgv (by simp)
      injection hv with hv1 _ hv3
      subst hv1 hv3
      exact finite_any _ _ rb _ _ _ w7 hgv hcm.wf hcm.cong (by have h1 := hcm.sz; rw [show Ug.csz [] = 0 from rfl] at h1; omega) (by simp)
  refine hfin.mono fun e w' hp => ?_
  obtain ⟨z, h1, h2, h3⟩ := hp
  exact ⟨z, h1, h2.trans hcm.done.symm, h3.below hn (fun z hz => Nat.le_trans hn6 (hvo z hz))⟩
set_option maxRecDepth 100000 in
set_option maxHeartbeats 4000000 in
theorem under_any {t u : T} {k n k' n' : Int} {m m' : Nat} {a a' : Option Addr} {c c' : Nat} {w : World} (hv : TV t k n m) (hv' : TV u k' n' m') (ht : TyAt (LT w.heap.size) w t a c) (hu : TyAt (LT w.heap.size) w u a' c') (hs : Tp.size t + Tp.size u ≤ 1000000) :
    Calls Try.prog 16 #[.agg #[.int .i64 k, .int .i64 n, .slice a m c], .agg #[.int .i64 k', .int .i64 n', .slice a' m' c']] w (UnPost t u w) := by
  have hmm := @run_makeMap Try.prog
  obtain ⟨W2, hW2⟩ : ∃ W2, (w.alloc (.cells #[.int .i64 k, .int .i64 n, .slice a m c] 24)).alloc (.cells #[.int .i64 k', .int .i64 n', .slice a' m' c'] 24) = W2 := ⟨_, rfl⟩
  have hb2 : Below w.heap.size w W2 := by rw [← hW2]; exact ((Below.refl _ _).alloc (Nat.le_refl _) _).alloc (by simp) _
  have bx : BoxT W2 w.heap.size t k n m a c := ⟨hv, by rw [← hW2]; exact box1 _ _ _ _ _, ty_later ht hb2⟩
  have bu : BoxT W2 (w.heap.size + 1) u k' n' m' a' c' := ⟨hv', by rw [← hW2]; exact box2 _ _ _ _ _, ty_later hu hb2⟩
  have hct := fun x (h : Below W2.heap.size W2 x) => sright_any (w := x) (bx.later h).says (bx.later h).ty (by omega)
  have hcu := fun x (h : Below W2.heap.size W2 x) => sright_any (w := x) (bu.later h).says (bu.later h).ty (by omega)
  have HCELL := Lib.hid (fun x (h : Below W2.heap.size W2 x) => (⟨(bx.later h).cells, (bu.later h).cells⟩ : _ ∧ _))
  obtain ⟨⟨c0, c1, c2⟩, ⟨d0, d1, d2⟩⟩ := HCELL.out W2 (Below.refl _ _)
  have HT := Lib.hid ht; have HU := Lib.hid hu; have HV := Lib.hid hv; have HV' := Lib.hid hv'; have HS := Lib.hid hs
  obtain ⟨r, hr⟩ : ∃ r, Tp.right t = r := ⟨_, rfl⟩
  obtain ⟨r', hr'⟩ : ∃ r, Tp.right u = r := ⟨_, rfl⟩
  unfold UnPost
  rw [hr] at hct ⊢
  rw [hr'] at hcu ⊢
  have HCT := Lib.hid hct; have HCU := Lib.hid hcu; have HW2 := Lib.hid hW2; have HB2 := Lib.hid hb2; have HR := Lib.hid hr; have HR' := Lib.hid hr'
  clear hct hcu hW2 hb2 bx bu hv hv' ht hu hs hr hr'
  go_enter Try.func16, Try.ntmps16
  go_upto_region 1 with fail
  rw [HW2.out]
  cases r with
  | false =>
    go_wp2_with (go_at_call 37; with_reducible refine (HCT.out _ (Below.refl _ _)).mono ?_; clear c0 c1 c2 d0 d1 d2; rintro e w3 ⟨rfl, hb⟩; have HB3 := Lib.hid hb; clear hb; obtain ⟨⟨c0, c1, c2⟩, ⟨d0, d1, d2⟩⟩ := HCELL.out w3 HB3.out)
    go_ret
    exact ⟨false, rfl, ⟨(fun h => by cases h), fun h => h.1⟩, HB2.out.tr HB3.out (Nat.le_refl _)⟩
  | true =>
    cases r' with
    | false =>
      go_wp2_with (first | (go_at_call 37; with_reducible refine (HCT.out _ (Below.refl _ _)).mono ?_; clear c0 c1 c2 d0 d1 d2; rintro e w3 ⟨rfl, hb⟩; have HB3 := Lib.hid hb; clear hb; obtain ⟨⟨c0, c1, c2⟩, ⟨d0, d1, d2⟩⟩ := HCELL.out w3 HB3.out) | (go_at_call 37; with_reducible refine (HCU.out _ HB3.out).mono ?_; clear c0 c1 c2 d0 d1 d2; rintro e w4 ⟨rfl, hb⟩; have HB4 := Lib.hid (HB3.out.tr hb (Nat.le_refl _)); clear hb; obtain ⟨⟨c0, c1, c2⟩, ⟨d0, d1, d2⟩⟩ := HCELL.out w4 HB4.out))
      go_ret
      exact ⟨false, rfl, ⟨(fun h => by cases h), fun h => h.2.1⟩, HB2.out.tr HB4.out (Nat.le_refl _)⟩
    | true =>
      go_upto_region 3 with (first | (go_at_call 37; with_reducible refine (HCT.out _ (Below.refl _ _)).mono ?_; clear c0 c1 c2 d0 d1 d2; rintro e w3 ⟨rfl, hb⟩; have HB3 := Lib.hid hb; clear hb; obtain ⟨⟨c0, c1, c2⟩, ⟨d0, d1, d2⟩⟩ := HCELL.out w3 HB3.out) | (go_at_call 37; with_reducible refine (HCU.out _ HB3.out).mono ?_; clear c0 c1 c2 d0 d1 d2; rintro e w4 ⟨rfl, hb⟩; have HB4 := Lib.hid (HB3.out.tr hb (Nat.le_refl _)); clear hb; obtain ⟨⟨c0, c1, c2⟩, ⟨d0, d1, d2⟩⟩ := HCELL.out w4 HB4.out))
      go_upto_region 4 with fail
      obtain ⟨W6, hW6⟩ : ∃ W, (w4.alloc (.map #[] 0)).alloc (.cells #[.slice none 0 0, .map (some w4.heap.size)] 62) = W := ⟨_, rfl⟩
      rw [hW6]
      have hb6 : Below w4.heap.size w4 W6 := by rw [← hW6]; exact ((Below.refl _ _).alloc (Nat.le_refl _) _).alloc (by simp) _
      have hw4 : w.heap.size ≤ w4.heap.size := Nat.le_trans HB2.out.size HB4.out.size
      have hg6 : GV w.heap.size (w4.heap.size + 1) (.map (some w4.heap.size)) (.slice none 0 0) W6 [] := by
        refine ⟨⟨[], ⟨rfl, fun p g h hg => by simp at hg⟩, World.ownsRow_nil _ _ _ _⟩, ?_, by omega⟩
        have := World.alloc_heap_new (w4.alloc (.map #[] 0)) (.cells #[.slice none 0 0, .map (some w4.heap.size)] 62)
        rw [World.size_alloc, hW6] at this; exact this
      have hv6 : VAt W6 w4.heap.size 0 (fun _ _ => none) := by
        have := vk_new w4
        exact this.same (by rw [← hW6]; exact Below.heap_alloc _ _ _ (by simp))
      have hwW : Below w.heap.size w W6 := (HB2.out.tr HB4.out (Nat.le_refl _)).trans (hb6.mono hw4)
      have hcmp := compare_any w.heap.size (w4.heap.size + 1) w4.heap.size w.heap.size t u a c a' c' W6 hg6 hv6 hw4 (Nat.le_refl _) HR.out HR'.out (ty_same (fun z hz => hwW.block z hz) (fun _ h => h) HT.out) (ty_same (fun z hz => hwW.block z hz) (fun _ h => h) HU.out) HS.out
      rw [tv_of HV.out, tv_of HV'.out] at hcmp
      have hund := Ug.und_two HR.out HR'.out
      obtain ⟨⟨c0, c1, c2⟩, ⟨d0, d1, d2⟩⟩ := HCELL.out W6 (HB4.out.trans (hb6.mono HB4.out.size))
      have HCMP := Lib.hid hcmp; have HUND := Lib.hid hund; have HWW := Lib.hid hwW; have HW4 := Lib.hid hw4; have HKP6 := Lib.hid (show w4.heap.size + 1 ≤ W6.heap.size by rw [← hW6]; simp)
      clear hcmp hund hwW hw4 hg6 hv6 hb6 hW6
      have HNW := Lib.hid (show w.heap.size ≤ W6.heap.size from HWW.out.size)
      go_wp2_with (first | (go_at_call 41; refine HCMP.out.mono ?_; clear c0 c1 c2 d0 d1 d2; rintro e w7 ⟨hkp, ok, rfl, hyes, hno⟩; have HKP := Lib.hid hkp; have HYES := Lib.hid hyes; have HNOT := Lib.hid hno; clear hkp hyes hno) | (go_at_call 42; refine (fin_after HNW.out (Nat.le_trans HNW.out HKP.out.size) HS.out (HYES.out (by assumption))).mono ?_; rintro e w8 ⟨z, rfl, hz, hk8⟩; have HZ := Lib.hid hz; have HK8 := Lib.hid hk8; clear hz hk8))
      all_goals
        have hbf : Below w.heap.size w w7 := HWW.out.trans (HKP.out.below HWW.out.size (fun z hz => by have := HW4.out; rcases hz with rfl | rfl <;> omega))
        have HBF := Lib.hid hbf; clear hbf
      · go_ret
        exact ⟨z, rfl, HZ.out.trans (HUND.out.symm.trans ⟨fun h => ⟨rfl, rfl, h⟩, fun h => h.2.2⟩), HBF.out.trans HK8.out⟩
      · go_ret
        exact ⟨false, rfl, ⟨(fun h => by cases h), fun h => absurd (HUND.out.1 h.2.2) (HNOT.out (by cases ok; rfl; exact absurd rfl (by assumption)))⟩, HBF.out⟩
end Go.Proofs.Ytgambiohchcfdaa
