/- The law's Less, walked. -/
import Derived.Test.YtcnnahmchjeakaaPrL
import Derived.Test.YtcnnahmchjeakaaSeqR
namespace Go.Proofs.Ytcnnahmchjeakaa
open Go Go.RowKit
open Tp (T)

/-- A row of Bools, in blocks below N. -/
structure BoolsAt (N : Nat) (w : World) (bs : List Bool) (a : Option Addr) (n cap : Nat) : Prop where
  len : bs.length = n
  le : n ≤ cap
  max : cap ≤ maxLen
  cells : bs ≠ [] → ∃ b o, a = some ⟨b, o, none⟩ ∧ b < N ∧ ∀ i (h : i < bs.length), w.cell? ⟨b, o + i, none⟩ = some (.bool bs[i])
theorem BoolsAt.later {N : Nat} {w w' : World} {bs : List Bool} {a : Option Addr} {n cap : Nat} (h : BoolsAt N w bs a n cap) (hb : Below N w w') : BoolsAt N w' bs a n cap :=
  ⟨h.len, h.le, h.max, fun hn => by
    obtain ⟨b, o, h1, h2, h3⟩ := h.cells hn
    exact ⟨b, o, h1, h2, fun i hi => (hb.cell (p := ⟨b, o + i, none⟩) h2).trans (h3 i hi)⟩⟩
theorem elem_bs : Try.prog.underlying 38 = some (.slice (Try.prog.elem 38)) := by kernel_rfl
theorem size_bs (w : World) : (sizeOf (Try.prog.elem 38)).run Try.prog w = .ok 1 w := by kernel_rfl
theorem BoolsAt.tail {N : Nat} {w : World} {b : Bool} {r : List Bool} {a : Option Addr} {n cap : Nat} (h : BoolsAt N w (b :: r) a n cap) :
    ∃ a', (∀ w', (Instr.slice 38 (.slice a n cap) (some (.int .i64 1)) none none).run Try.prog w' = .ok (.slice a' (n - 1) (cap - 1)) w') ∧ BoolsAt N w r a' (n - 1) (cap - 1) := by
  have hl := h.len
  have hle := h.le
  have hmx := h.max
  simp only [List.length_cons] at hl
  refine ⟨if cap = 1 then a else (a.map (·.add 1)), fun w' => ?_, by omega, by omega, by omega, fun hr => ?_⟩
  · have h := run_slice_l w' 38 a n cap elem_bs .i64 1 (by omega) (by omega)
    rw [h, size_bs]
    simp [Result.andThen, sliced]
  · obtain ⟨b', o, h1, h2, h3⟩ := h.cells (by simp)
    have hc : cap ≠ 1 := by have := List.length_pos_iff.2 hr; omega
    refine ⟨b', o + 1, by rw [if_neg hc, h1]; simp [add_flat], h2, fun i hi => ?_⟩
    have := h3 (i + 1) (by simp; omega)
    rw [show o + 1 + i = o + (i + 1) from by omega]
    simpa using this
theorem BoolsAt.head {N : Nat} {w : World} {b : Bool} {r : List Bool} {a : Option Addr} {n cap : Nat} (h : BoolsAt N w (b :: r) a n cap) : ∃ g o, a = some ⟨g, o, none⟩ ∧ g < N ∧ w.cell? ⟨g, o, none⟩ = some (.bool b) ∧ 0 < n := by
  obtain ⟨g, o, h1, h2, h3⟩ := h.cells (by simp)
  exact ⟨g, o, h1, h2, h3 0 (by simp), by have := h.len; simp only [List.length_cons] at this; omega⟩
/-- What Less hands back. -/
def LessPost (N : Nat) (t : T) (bs : List Bool) (w : World) (e : Ending) (w' : World) : Prop := ∃ k n m a c ba bn bc, TV (Tp.less t bs).1 k n m ∧ e = .returned (.tuple #[.agg #[.int .i64 k, .int .i64 n, .slice a m c], .slice ba bn bc]) ∧ TyAt (fun b => w.heap.size ≤ b ∧ b < w'.heap.size) w' (Tp.less t bs).1 a c ∧ BoolsAt N w' (Tp.less t bs).2 ba bn bc ∧ Below w.heap.size w w'
theorem less_dyn {t : T} {r : List Bool} : Tp.less t (true :: r) = (.mk 5 0 [], r) := by cases t; simp [Tp.less]
theorem less_nil (t : T) : Tp.less t [] = (.mk t.kind t.num (Tp.lesses t.kids []).1, (Tp.lesses t.kids []).2) := by cases t; simp [Tp.less, Tp.T.kind, Tp.T.num, Tp.T.kids]
theorem less_no (t : T) (r : List Bool) : Tp.less t (false :: r) = (.mk t.kind t.num (Tp.lesses t.kids r).1, (Tp.lesses t.kids r).2) := by cases t; simp [Tp.less, Tp.T.kind, Tp.T.num, Tp.T.kids]

set_option maxRecDepth 100000 in
set_option maxHeartbeats 4000000 in
theorem less_any (N : Nat) : ∀ (s : Nat) (t : T) (bs : List Bool) (kk nn : Int) (m : Nat) (a : Option Addr) (cap : Nat) (ba : Option Addr) (bn bc : Nat) (w : World), TV t kk nn m → Tp.size t ≤ s → Tp.size t ≤ 10000 → N ≤ w.heap.size → TyAt (LT w.heap.size) w t a cap → BoolsAt N w bs ba bn bc →
    Calls Try.prog 25 #[.agg #[.int .i64 kk, .int .i64 nn, .slice a m cap], .slice ba bn bc] w (LessPost N t bs w) := by
  intro s
  induction s with
  | zero => intro t bs kk nn m a cap ba bn bc w hv h; have := Tp.size_pos t; omega
  | succ s ih =>
    intro t bs kk nn m a cap ba bn bc w hv hn hs hN hty hbs
    have hm10 : m ≤ 10000 := by rw [← hv.2.2]; have := Tp.length_le_sizes t.kids; have := size_kids t; omega
    have hi64 : I64 kk ∧ I64 nn := by rw [← hv.1, ← hv.2.1]; exact ⟨hty.1, hty.2.1⟩
    have h5 : I64 5 := i64_nat (by decide) (by decide)
    obtain ⟨W2, hW2⟩ : ∃ W2, (w.alloc (.cells #[.int .i64 kk, .int .i64 nn, .slice a m cap] 24)).alloc (.cells #[.int .i64 0, .int .i64 0, .slice none 0 0] 24) = W2 := ⟨_, rfl⟩
    have hb2 : Below w.heap.size w W2 := by rw [← hW2]; exact ((Below.refl _ _).alloc (Nat.le_refl _) _).alloc (by simp) _
    have hx2 : W2.heap[w.heap.size]? = some (.cells #[.int .i64 kk, .int .i64 nn, .slice a m cap] 24) := by rw [← hW2]; exact box1 _ _ _ _ _
    have hz2 : W2.heap[w.heap.size + 1]? = some (.cells #[.int .i64 0, .int .i64 0, .slice none 0 0] 24) := by rw [← hW2]; exact box2 _ _ _ _ _
    have hs2 : W2.heap.size = w.heap.size + 2 := by rw [← hW2]; simp
    have hbs2 := hbs.later (hb2.mono hN)
    have HI := Lib.hid hi64; have HN := Lib.hid hn; have HS := Lib.hid hs; have HTY := Lib.hid hty; have IH := Lib.hid ih; have HV := Lib.hid hv; have HNW := Lib.hid hN; have HM10 := Lib.hid hm10
    have HW2 := Lib.hid hW2; have HB2 := Lib.hid hb2; have HX2 := Lib.hid hx2; have HZ2 := Lib.hid hz2; have HS2 := Lib.hid hs2; have HBS := Lib.hid hbs2
    clear hi64 hn hs hty ih hv hN hW2 hb2 hx2 hz2 hs2 hbs hm10
    go_enter Try.func25, Try.ntmps25
    go_upto_region 1 with fail
    rw [HW2.out]
    have hx2c : W2.cell? ⟨w.heap.size, 0, none⟩ = some (.int .i64 kk) ∧ W2.cell? ⟨w.heap.size, 1, none⟩ = some (.int .i64 nn) ∧ W2.cell? ⟨w.heap.size, 2, none⟩ = some (.slice a m cap) := ⟨cell_box HX2.out rfl rfl, cell_box HX2.out rfl rfl, cell_box HX2.out rfl rfl⟩
    cases bs with
    | nil =>
      obtain rfl : bn = 0 := by have := hbs2.len; simpa using this.symm
      clear hbs2
      go_upto_region 5 with fail
      obtain ⟨c0, c1, c2⟩ := hx2c
      obtain ⟨W3, hW3⟩ : ∃ W, W2.alloc (.cells #[.int .i64 kk, .int .i64 nn, .slice none 0 0] 24) = W := ⟨_, rfl⟩
      have hb23 : Below W2.heap.size W2 W3 := by rw [← hW3]; exact (Below.refl _ _).alloc (Nat.le_refl _) _
      have hu3 : W3.heap[w.heap.size + 2]? = some (.cells #[.int .i64 kk, .int .i64 nn, .slice none 0 0] 24) := by rw [← hW3, ← HS2.out]; exact World.alloc_heap_new W2 _
      have hs3 : W3.heap.size = w.heap.size + 3 := by rw [← hW3, World.size_alloc, HS2.out]
      have H3 := Lib.hid (show Below w.heap.size w W3 ∧ W3.heap[w.heap.size]? = some (.cells #[.int .i64 kk, .int .i64 nn, .slice a m cap] 24) ∧ W3.heap[w.heap.size + 1]? = some (.cells #[.int .i64 0, .int .i64 0, .slice none 0 0] 24) ∧ BoolsAt N W3 [] ba 0 bc from ⟨HB2.out.tr hb23 (Nat.le_refl _), (hb23.block _ (by have := HS2.out; omega)).trans HX2.out, (hb23.block _ (by have := HS2.out; omega)).trans HZ2.out, HBS.out.later (hb23.mono (by have := HS2.out; have := HNW.out; omega))⟩)
      have HLS := Lib.hid (less_nil t : Tp.less t [] = (.mk t.kind t.num (Tp.lesses t.kids []).1, (Tp.lesses t.kids []).2))
      have HU3 := Lib.hid hu3; have HS3 := Lib.hid hs3; have HW3 := Lib.hid (show W2.alloc (.cells #[.int .i64 kk, .int .i64 nn, .slice none 0 0] 24) = W3 from hW3)
      clear hW3 hb23 hu3 hs3
      go_upto_region 6 with fail
      clear c0 c1 c2
      rw [HW3.out, HS2.out]
      go_wp2_with fail
      go_loopg [1, 7] m (fun gk l i wr => ∃ (k : Nat) (ks : List Ke) (v : Value) (bs' : List Bool) (ba' : Option Addr) (bn' bc' : Nat), k ≤ m ∧ i = .int .i64 k ∧ l = .slice ba' bn' bc' ∧ BoolsAt N wr bs' ba' bn' bc' ∧ ks.length = k ∧ Tp.lesses t.kids [] = (ks.map Ke.t ++ (Tp.lesses (t.kids.drop k) bs').1, (Tp.lesses (t.kids.drop k) bs').2) ∧ RowK (w.heap.size + 3) wr v ks ∧ wr.heap[w.heap.size]? = some (.cells #[.int .i64 kk, .int .i64 nn, .slice a m cap] 24) ∧ wr.heap[w.heap.size + 1]? = some (.cells #[.int .i64 0, .int .i64 0, .slice none 0 0] 24) ∧
        wr.heap[w.heap.size + 2]? = some (.cells #[.int .i64 kk, .int .i64 nn, v] 24) ∧ Below w.heap.size w wr ∧ w.heap.size + 3 ≤ wr.heap.size ∧ gk = m - k)
      case atStart => exact ⟨0, [], _, [], ba, 0, bc, Nat.zero_le _, rfl, rfl, H3.out.2.2.2, rfl, by simp, RowK.nil _ _, H3.out.2.1, H3.out.2.2.1, HU3.out, H3.out.1, by have := HS3.out; omega, rfl⟩
      case round =>
        obtain ⟨k, ks, v, bs', ba', bn', bc', hk, rfl, rfl, hbs', hkl, hles, hrow, hbt, hbr, hbu, hbw, hsz, rfl⟩ := hrel
        obtain ⟨va, vcap, rfl⟩ := own_shapeT hrow.own
        rw [hkl] at hrow hbu
        have cu : wr.cell? ⟨w.heap.size + 2, 2, none⟩ = some (.slice va k vcap) := cell_box hbu rfl rfl
        have cu0 : wr.cell? ⟨w.heap.size + 2, 0, none⟩ = some (.int .i64 kk) := cell_box hbu rfl rfl
        have cu1 : wr.cell? ⟨w.heap.size + 2, 1, none⟩ = some (.int .i64 nn) := cell_box hbu rfl rfl
        have ct : wr.cell? ⟨w.heap.size, 2, none⟩ = some (.slice a m cap) := cell_box hbt rfl rfl
        have HBS' := Lib.hid hbs'; have HLES := Lib.hid hles; have HROW := Lib.hid hrow; have HBT := Lib.hid hbt; have HBR := Lib.hid hbr; have HBU := Lib.hid hbu; have HBW := Lib.hid hbw; have HSZ := Lib.hid hsz; have HKL := Lib.hid hkl
        clear hbs' hles hrow hbt hbr hbu hbw hsz hkl
        by_cases hlt : k < m
        · have hkl : k < t.kids.length := by rw [HV.out.2.2]; exact hlt
          obtain ⟨b1, o1, xa, xcap, rfl, hbn, hx, x0, x1, x2⟩ := kid_at HTY.out HBW.out (Nat.le_refl _) hkl
          have hcall := fun kx nx mx (hvx : TV t.kids[k] kx nx mx) => IH.out t.kids[k] bs' kx nx mx xa xcap ba' bn' bc' wr hvx (by have := HN.out; have := size_kid t.kids k hkl; have := size_kids t; omega) (by have := HS.out; have := size_kid t.kids k hkl; have := size_kids t; omega) (Nat.le_trans HNW.out HBW.out.size) hx HBS'.out
          have hdr : t.kids.drop k = t.kids[k] :: t.kids.drop (k + 1) := List.drop_eq_getElem_cons hkl
          have hles := HLES.out
          rw [hdr] at hles
          obtain ⟨x, hx'⟩ : ∃ x, t.kids[k] = x := ⟨_, rfl⟩
          rw [hx'] at x0 x1 x2 hcall hles
          obtain ⟨xk, xn, xm, hvx⟩ := TV.mk x
          rw [hvx.1] at x0; rw [hvx.2.1] at x1; rw [hvx.2.2] at x2
          have hcl := hcall xk xn xm hvx
          have HC := Lib.hid hcl; have HLE2 := Lib.hid hles
          have hi0 : (0 : Int) ≤ (k : Int) := Int.natCast_nonneg k
          have hi1 : (k : Int) < (m : Int) := by omega
          clear hcall hcl hles hdr hx hx' hvx hbn
          go_wp2_with fail
          refine HC.out.mono ?_
          clear x0 x1 x2 hi0 hi1 ct cu cu0 cu1
          rintro e w6 ⟨k2, n2, m2, a2, c2, ba2, bn2, bc2, hv2, rfl, hty2, hbs2, hb6⟩
          obtain ⟨W7, hW7⟩ : ∃ W, w6.alloc (.cells #[.int .i64 k2, .int .i64 n2, .slice a2 m2 c2] 24) = W := ⟨_, rfl⟩
          have hb67 : Below w6.heap.size w6 W7 := by rw [← hW7]; exact (Below.refl _ _).alloc (Nat.le_refl _) _
          have hg7 : W7.heap[w6.heap.size]? = some (.cells #[.int .i64 k2, .int .i64 n2, .slice a2 m2 c2] 24) := by rw [← hW7]; exact World.alloc_heap_new w6 _
          have hb7 : Below wr.heap.size wr W7 := hb6.tr hb67 (Nat.le_refl _)
          have hu7 : W7.heap[w.heap.size + 2]? = some (.cells #[.int .i64 kk, .int .i64 nn, .slice va k vcap] 24) := (hb7.block _ (by have := HSZ.out; omega)).trans HBU.out
          have cu : W7.cell? ⟨w.heap.size + 2, 2, none⟩ = some (.slice va k vcap) := cell_box hu7 rfl rfl
          have d0 : W7.cell? ⟨w6.heap.size, 0, none⟩ = some (.int .i64 k2) := cell_box hg7 rfl rfl
          have d1 : W7.cell? ⟨w6.heap.size, 1, none⟩ = some (.int .i64 n2) := cell_box hg7 rfl rfl
          have d2 : W7.cell? ⟨w6.heap.size, 2, none⟩ = some (.slice a2 m2 c2) := cell_box hg7 rfl rfl
          have hty7 : TyAt (fun b => wr.heap.size ≤ b ∧ b < W7.heap.size) W7 (Tp.less x bs').1 a2 c2 := ty_same (fun z hz => hb67.block z hz.2) (fun z hz => ⟨hz.1, Nat.lt_of_lt_of_le hz.2 hb67.size⟩) hty2
          have HV2 := Lib.hid hv2; have HT7 := Lib.hid hty7; have HBS2 := Lib.hid hbs2; have HB6 := Lib.hid hb6; have HB67 := Lib.hid hb67; have HB7 := Lib.hid hb7; have HU7 := Lib.hid hu7; have HW7 := Lib.hid hW7
          have HL7 := Lib.hid (show w.heap.size + 2 < W7.heap.size by have := HSZ.out; have := hb7.size; omega)
          clear hv2 hty2 hty7 hbs2 hb6 hb67 hb7 hu7 hg7 hW7
          go_upto_region 10 with fail
          rw [HW7.out]
          obtain ⟨k40, kml⟩ := b40 (r := k) (Nat.le_trans (Nat.le_of_lt hlt) HM10.out)
          have B1 := Lib.hid k40; have B2 := Lib.hid kml
          clear k40 kml
          obtain ⟨i0, hi, hz0, hz1, hz2⟩ := info_parts info_ty
          go_wp2_with (at_builtin; refine wpList_append_lies _ rfl (.tmp 49) (.tmp 51) 22 rfl (w.heap.size + 3) 24 i0 (.agg #[.int .i64 0, .int .i64 0, .slice none 0 0]) 3 40 Try.underlying22 hi hz0 hz1 hz2 rfl (by decide) (.slice va k vcap) k (rowCells ks) rfl ((own_len (HROW.out.keep (fun y _ hy => HB7.out.block y hy) HB7.out.size).own HKL.out).alloc _) ⟨W7.heap.size, 0, none⟩ 1 1 [.int .i64 k2, .int .i64 n2, .slice a2 m2 c2] rfl rfl (World.news_of_block (World.alloc_heap_new W7 _)) (three_one _ _ _ _ _) (by decide) B2.out B1.out (by have := HL7.out; simp; omega) (W7.heap.size + 1) (by simp) ?_; intro g2 cap2 w9 own9 gr9 ly9 _; have lu9 := far_own gr9 HB7.out HBU.out HROW.out.own (by omega); have cu9 : w9.cell? ⟨w.heap.size + 2, 2, none⟩ = some (.slice va k vcap) := cell_box lu9 rfl rfl; have fu9 : w9.frozen? ⟨w.heap.size + 2, 2, none⟩ = false := IsC.frozen ⟨_, _, lu9⟩; have OW9 := Lib.hid own9; have GR9 := Lib.hid gr9; have LY9 := Lib.hid ly9; have LU9 := Lib.hid lu9; clear own9 gr9 ly9 lu9)
          have hrow9 := HROW.out.push HKL.out (e := ⟨(Tp.less x bs').1, a2, c2⟩) (fun y _ hy => HB7.out.block y hy) HB7.out.size HSZ.out HT7.out (by simp only [keCells, HV2.out.1, HV2.out.2.1, HV2.out.2.2]; exact OW9.out) GR9.out LY9.out
          have lt9 := far_own GR9.out HB7.out HBT.out HROW.out.own (by omega)
          have lr9 := far_own GR9.out HB7.out HBR.out HROW.out.own (by omega)
          have hb69 : Below w.heap.size W7 w9 := below_push (Below.refl _ _) GR9.out (fun z hz => by have := (HROW.out.own.lt z hz).1; omega) (by have := HL7.out; omega)
          have hsw : w.heap.size ≤ wr.heap.size := HBW.out.size
          have hb9 : Below w.heap.size w w9 := (HBW.out.trans (HB7.out.mono hsw)).trans hb69
          have hn9 : Below w.heap.size w6 w9 := (HB67.out.mono (Nat.le_trans hsw HB6.out.size)).trans hb69
          have hz9 : w.heap.size + 3 ≤ w9.heap.size := by have h1 := GR9.out.size; rw [World.size_alloc] at h1; have h2 := HB7.out.size; have h3 := HSZ.out; omega
          have R9 := Lib.hid hrow9; have LT9 := Lib.hid lt9; have LR9 := Lib.hid lr9; have HB9 := Lib.hid hb9; have HN9 := Lib.hid hn9; have HZ9 := Lib.hid hz9
          clear hrow9 lt9 lr9 hb9 hn9 hz9 hb69 hsw hi hz0 hz1 hz2 d0 d1 d2
          go_wp2_with fail
          go_roundg (m - (k + 1))
          case measure => omega
          case rel =>
            refine ⟨k + 1, ks ++ [⟨(Tp.less x bs').1, a2, c2⟩], _, (Tp.less x bs').2, ba2, bn2, bc2, by omega, by exact wrap_k (Nat.le_trans (Nat.le_of_lt hlt) HM10.out), rfl, HBS2.out.later ((HN9.out.setCell (p := ⟨w.heap.size + 2, 2, none⟩) (by dsimp only; omega) _).mono HNW.out), by rw [List.length_append, HKL.out]; rfl, ?_, R9.out.keep (fun y hy _ => Below.heap_setCell _ _ _ y (by dsimp only; omega)) (by rw [size_setCell]; exact Nat.le_refl _), ?_, ?_, set2 LU9.out, HB9.out.setCell (by dsimp only; omega) _, by rw [size_setCell]; exact HZ9.out, rfl⟩
            · rw [HLE2.out]; simp [Tp.lesses]
            · exact (Below.heap_setCell _ _ _ _ (by dsimp only; omega)).trans LT9.out
            · exact (Below.heap_setCell _ _ _ _ (by dsimp only; omega)).trans LR9.out
        · obtain rfl : k = m := by omega
          have hall : t.kids.drop k = [] := List.drop_eq_nil_of_le (by rw [HV.out.2.2]; exact Nat.le_refl _)
          have hles := HLES.out
          rw [hall] at hles
          simp only [Tp.lesses, List.append_nil] at hles
          have hll := HLS.out
          rw [hles, HV.out.1, HV.out.2.1] at hll
          have HLL := Lib.hid hll
          obtain ⟨z0, z1, z2, f0, f1, f2⟩ := zero_three HBR.out
          have hrow := HROW.out.keep (w' := ((wr.setCell ⟨w.heap.size + 1, 0, none⟩ (.int .i64 kk)).setCell ⟨w.heap.size + 1, 1, none⟩ (.int .i64 nn)).setCell ⟨w.heap.size + 1, 2, none⟩ (.slice va k vcap)) (fun y hy _ => set3_other (by omega)) (by rw [size_setCell, size_setCell, size_setCell]; exact Nat.le_refl _)
          have HR2 := Lib.hid hrow
          have HF := Lib.hid (box_set3 (v0 := .int .i64 kk) (v1 := .int .i64 nn) (v2 := .slice va k vcap) HBR.out)
          have HBF := Lib.hid (put3 (bb := w.heap.size + 1) (v0 := .int .i64 kk) (v1 := .int .i64 nn) (v2 := .slice va k vcap) HBW.out (Nat.le_succ _))
          have HBN := Lib.hid (HBS'.out.later (put3 (bb := w.heap.size + 1) (v0 := .int .i64 kk) (v1 := .int .i64 nn) (v2 := .slice va k vcap) (Below.refl N wr) (by have := HNW.out; omega)))
          clear hall hles hll hrow
          go_wp2_with fail
          have hF := HF.out; have hbF := HBF.out; have hr2 := HR2.out; have hbn := HBN.out
          clear cu cu0 cu1 ct z0 z1 z2 f0 f1 f2
          generalize ((wr.setCell ⟨w.heap.size + 1, 0, none⟩ (.int .i64 kk)).setCell ⟨w.heap.size + 1, 1, none⟩ (.int .i64 nn)).setCell ⟨w.heap.size + 1, 2, none⟩ (.slice va k vcap) = F at hF hbF hr2 hbn ⊢
          have hsl := hr2.kids.2
          have hty : TyAt (fun b => w.heap.size ≤ b ∧ b < F.heap.size) F (.mk kk nn (ks.map Ke.t)) va vcap := ty_same (fun _ _ => rfl) (fun z hz => ⟨by have := hz.1; omega, hz.2⟩) (show TyAt (fun b => w.heap.size + 3 ≤ b ∧ b < F.heap.size) F (.mk kk nn (ks.map Ke.t)) va vcap from ⟨HI.out.1, HI.out.2, hsl⟩)
          refine bodyPost_ret_by (v := .tuple #[.agg #[.int .i64 kk, .int .i64 nn, .slice va k vcap], .slice ba' bn' bc']) ?_ rfl ⟨kk, nn, k, va, vcap, ba', bn', bc', by rw [HLL.out]; exact ⟨rfl, rfl, (List.length_map ..).trans HKL.out⟩, rfl, by rw [HLL.out]; exact hty, by rw [HLL.out]; exact hbn, hbF⟩
          rw [results_cell_tmp (p := 4) (u := 5) (ty := 24) (by kernel_rfl)]
          simp [asAddr, Result.andThen, run_loadVar_row F _ 24 24 _ _ _ hF Try.underlying24 rfl (by kernel_rfl)]
    | cons b r =>
      obtain ⟨g, o, rfl, hg, hc, hpos⟩ := hbs2.head
      obtain ⟨ta, htl, htb⟩ := hbs2.tail
      have HTB := Lib.hid htb
      have hn0 : ((bn : Int) > 0) := by omega
      have hn1 : ((1 : Int) ≤ (bn : Int)) := by omega
      clear hbs2 htb
      cases b with
      | true =>
        go_upto_region 2 with fail
        refine wp_region_rel (R := Below w.heap.size) (fun _ => Below.refl _ _) (fun h1 h2 => h1.trans h2) [(1, false), (1, false), (0, true), (0, true), (0, false)] (by kernel_rfl) (by kernel_rfl) (by kernel_rfl) (fun _ _ _ d _ h => by cases d <;> exact h) ?_
        have hbd : Below W2.heap.size W2 W2.drew := (Below.refl _ _).drew
        generalize W2.drew = wD at hbd ⊢
        have HBD := Lib.hid hbd; clear hbd
        repeat
          (first | with_reducible refine rp0 (fun K hK => ?_) | with_reducible refine rp1 (fun K hK => ?_)
           go_simp
           first
           | (with_reducible refine hK _ _ ?_; clear hK K)
           | (with_reducible apply Exists.intro
              refine ⟨fun x hx => ?_, hK _ _ ?_⟩
              first
                | (with_reducible exact rfl)
              clear hK K))
        first | with_reducible refine rc0 (fun K hK => ?_) | with_reducible refine rc1 (fun K hK => ?_)
        go_simp
        refine (leaf_any 5 _).mono ?_
        rintro e x1 ⟨rfl, hb9⟩
        have hb1 : Below W2.heap.size W2 x1 := HBD.out.tr hb9 (Nat.le_refl _)
        refine ⟨hb9.mono (by have := HBD.out.size; have := HS2.out; omega), hK _ _ ?_⟩
        clear hK K hb9
        have hzr : x1.heap[w.heap.size + 1]? = some (.cells #[.int .i64 0, .int .i64 0, .slice none 0 0] 24) := (hb1.block _ (by have := HS2.out; omega)).trans HZ2.out
        obtain ⟨z0, z1, z2, f0, f1, f2⟩ := zero_three hzr
        have HF := Lib.hid (box_set3 (v0 := .int .i64 5) (v1 := .int .i64 0) (v2 := .slice none 0 0) hzr)
        have HBF := Lib.hid (put3 (bb := w.heap.size + 1) (v0 := .int .i64 5) (v1 := .int .i64 0) (v2 := .slice none 0 0) (HB2.out.tr hb1 (Nat.le_refl _)) (Nat.le_succ _))
        have HBR := Lib.hid (put3 (bb := w.heap.size + 1) (v0 := .int .i64 5) (v1 := .int .i64 0) (v2 := .slice none 0 0) (Below.refl w.heap.size x1) (Nat.le_succ _))
        have HBN := Lib.hid (HTB.out.later ((hb1.mono (by have := HNW.out; have := HS2.out; omega)).trans (put3 (bb := w.heap.size + 1) (v0 := .int .i64 5) (v1 := .int .i64 0) (v2 := .slice none 0 0) (Below.refl N x1) (by have := HNW.out; omega))))
        clear hb1 hzr
        first | with_reducible refine rc0 (fun K hK => ?_) | with_reducible refine rc1 (fun K hK => ?_)
        go_simp
        refine ⟨HBR.out, hK _ _ ?_⟩
        have hF := HF.out; have hbF := HBF.out; have hbn := HBN.out
        clear hK K z0 z1 z2 f0 f1 f2
        generalize ((x1.setCell ⟨w.heap.size + 1, 0, none⟩ (.int .i64 5)).setCell ⟨w.heap.size + 1, 1, none⟩ (.int .i64 0)).setCell ⟨w.heap.size + 1, 2, none⟩ (.slice none 0 0) = F at hF hbF hbn ⊢
        have HF2 := Lib.hid hF; have HBF2 := Lib.hid hbF; have HBN2 := Lib.hid hbn
        clear hF hbF hbn HF HBF HBN HBR
        repeat
          (first | with_reducible refine rp0 (fun K hK => ?_) | with_reducible refine rp1 (fun K hK => ?_)
           go_simp
           first
           | (with_reducible refine hK _ _ ?_; clear hK K)
           | (with_reducible apply Exists.intro
              refine ⟨fun x hx => ?_, hK _ _ ?_⟩
              first
                | (with_reducible exact rfl)
              clear hK K))
        with_reducible refine rel_nil ?_
        go_wp2_with fail
        have hF := HF2.out
        refine bodyPost_ret_by (v := .tuple #[.agg #[.int .i64 5, .int .i64 0, .slice none 0 0], .slice ta (bn - 1) (bc - 1)]) ?_ rfl ⟨5, 0, 0, none, 0, ta, bn - 1, bc - 1, by rw [less_dyn]; exact ⟨rfl, rfl, rfl⟩, rfl, by rw [less_dyn]; exact leaf_at h5, by rw [less_dyn]; exact HBN2.out, HBF2.out⟩
        rw [results_cell_tmp (p := 4) (u := 5) (ty := 24) (by kernel_rfl)]
        simp [asAddr, Result.andThen, run_loadVar_row F _ 24 24 _ _ _ hF Try.underlying24 rfl (by kernel_rfl)]
      | false =>
        go_upto_region 5 with fail
        clear hn0 hn1 htl hc hg hpos
        obtain ⟨c0, c1, c2⟩ := hx2c
        obtain ⟨W3, hW3⟩ : ∃ W, W2.alloc (.cells #[.int .i64 kk, .int .i64 nn, .slice none 0 0] 24) = W := ⟨_, rfl⟩
        have hb23 : Below W2.heap.size W2 W3 := by rw [← hW3]; exact (Below.refl _ _).alloc (Nat.le_refl _) _
        have hu3 : W3.heap[w.heap.size + 2]? = some (.cells #[.int .i64 kk, .int .i64 nn, .slice none 0 0] 24) := by rw [← hW3, ← HS2.out]; exact World.alloc_heap_new W2 _
        have hs3 : W3.heap.size = w.heap.size + 3 := by rw [← hW3, World.size_alloc, HS2.out]
        have H3 := Lib.hid (show Below w.heap.size w W3 ∧ W3.heap[w.heap.size]? = some (.cells #[.int .i64 kk, .int .i64 nn, .slice a m cap] 24) ∧ W3.heap[w.heap.size + 1]? = some (.cells #[.int .i64 0, .int .i64 0, .slice none 0 0] 24) ∧ BoolsAt N W3 r ta (bn - 1) (bc - 1) from ⟨HB2.out.tr hb23 (Nat.le_refl _), (hb23.block _ (by have := HS2.out; omega)).trans HX2.out, (hb23.block _ (by have := HS2.out; omega)).trans HZ2.out, HTB.out.later (hb23.mono (by have := HS2.out; have := HNW.out; omega))⟩)
        have HLS := Lib.hid (less_no t r : Tp.less t (false :: r) = (.mk t.kind t.num (Tp.lesses t.kids r).1, (Tp.lesses t.kids r).2))
        have HU3 := Lib.hid hu3; have HS3 := Lib.hid hs3; have HW3 := Lib.hid (show W2.alloc (.cells #[.int .i64 kk, .int .i64 nn, .slice none 0 0] 24) = W3 from hW3)
        clear hW3 hb23 hu3 hs3
        go_upto_region 6 with fail
        clear c0 c1 c2
        rw [HW3.out, HS2.out]
        go_wp2_with fail
        go_loopg [1, 7] m (fun gk l i wr => ∃ (k : Nat) (ks : List Ke) (v : Value) (bs' : List Bool) (ba' : Option Addr) (bn' bc' : Nat), k ≤ m ∧ i = .int .i64 k ∧ l = .slice ba' bn' bc' ∧ BoolsAt N wr bs' ba' bn' bc' ∧ ks.length = k ∧ Tp.lesses t.kids r = (ks.map Ke.t ++ (Tp.lesses (t.kids.drop k) bs').1, (Tp.lesses (t.kids.drop k) bs').2) ∧ RowK (w.heap.size + 3) wr v ks ∧ wr.heap[w.heap.size]? = some (.cells #[.int .i64 kk, .int .i64 nn, .slice a m cap] 24) ∧ wr.heap[w.heap.size + 1]? = some (.cells #[.int .i64 0, .int .i64 0, .slice none 0 0] 24) ∧
          wr.heap[w.heap.size + 2]? = some (.cells #[.int .i64 kk, .int .i64 nn, v] 24) ∧ Below w.heap.size w wr ∧ w.heap.size + 3 ≤ wr.heap.size ∧ gk = m - k)
        case atStart => exact ⟨0, [], _, r, ta, (bn - 1), (bc - 1), Nat.zero_le _, rfl, rfl, H3.out.2.2.2, rfl, by simp, RowK.nil _ _, H3.out.2.1, H3.out.2.2.1, HU3.out, H3.out.1, by have := HS3.out; omega, rfl⟩
        case round =>
          obtain ⟨k, ks, v, bs', ba', bn', bc', hk, rfl, rfl, hbs', hkl, hles, hrow, hbt, hbr, hbu, hbw, hsz, rfl⟩ := hrel
          obtain ⟨va, vcap, rfl⟩ := own_shapeT hrow.own
          rw [hkl] at hrow hbu
          have cu : wr.cell? ⟨w.heap.size + 2, 2, none⟩ = some (.slice va k vcap) := cell_box hbu rfl rfl
          have cu0 : wr.cell? ⟨w.heap.size + 2, 0, none⟩ = some (.int .i64 kk) := cell_box hbu rfl rfl
          have cu1 : wr.cell? ⟨w.heap.size + 2, 1, none⟩ = some (.int .i64 nn) := cell_box hbu rfl rfl
          have ct : wr.cell? ⟨w.heap.size, 2, none⟩ = some (.slice a m cap) := cell_box hbt rfl rfl
          have HBS' := Lib.hid hbs'; have HLES := Lib.hid hles; have HROW := Lib.hid hrow; have HBT := Lib.hid hbt; have HBR := Lib.hid hbr; have HBU := Lib.hid hbu; have HBW := Lib.hid hbw; have HSZ := Lib.hid hsz; have HKL := Lib.hid hkl
          clear hbs' hles hrow hbt hbr hbu hbw hsz hkl
          by_cases hlt : k < m
          · have hkl : k < t.kids.length := by rw [HV.out.2.2]; exact hlt
            obtain ⟨b1, o1, xa, xcap, rfl, hbn, hx, x0, x1, x2⟩ := kid_at HTY.out HBW.out (Nat.le_refl _) hkl
            have hcall := fun kx nx mx (hvx : TV t.kids[k] kx nx mx) => IH.out t.kids[k] bs' kx nx mx xa xcap ba' bn' bc' wr hvx (by have := HN.out; have := size_kid t.kids k hkl; have := size_kids t; omega) (by have := HS.out; have := size_kid t.kids k hkl; have := size_kids t; omega) (Nat.le_trans HNW.out HBW.out.size) hx HBS'.out
            have hdr : t.kids.drop k = t.kids[k] :: t.kids.drop (k + 1) := List.drop_eq_getElem_cons hkl
            have hles := HLES.out
            rw [hdr] at hles
            obtain ⟨x, hx'⟩ : ∃ x, t.kids[k] = x := ⟨_, rfl⟩
            rw [hx'] at x0 x1 x2 hcall hles
            obtain ⟨xk, xn, xm, hvx⟩ := TV.mk x
            rw [hvx.1] at x0; rw [hvx.2.1] at x1; rw [hvx.2.2] at x2
            have hcl := hcall xk xn xm hvx
            have HC := Lib.hid hcl; have HLE2 := Lib.hid hles
            have hi0 : (0 : Int) ≤ (k : Int) := Int.natCast_nonneg k
            have hi1 : (k : Int) < (m : Int) := by omega
            clear hcall hcl hles hdr hx hx' hvx hbn
            go_wp2_with fail
            refine HC.out.mono ?_
            clear x0 x1 x2 hi0 hi1 ct cu cu0 cu1
            rintro e w6 ⟨k2, n2, m2, a2, c2, ba2, bn2, bc2, hv2, rfl, hty2, hbs2, hb6⟩
            obtain ⟨W7, hW7⟩ : ∃ W, w6.alloc (.cells #[.int .i64 k2, .int .i64 n2, .slice a2 m2 c2] 24) = W := ⟨_, rfl⟩
            have hb67 : Below w6.heap.size w6 W7 := by rw [← hW7]; exact (Below.refl _ _).alloc (Nat.le_refl _) _
            have hg7 : W7.heap[w6.heap.size]? = some (.cells #[.int .i64 k2, .int .i64 n2, .slice a2 m2 c2] 24) := by rw [← hW7]; exact World.alloc_heap_new w6 _
            have hb7 : Below wr.heap.size wr W7 := hb6.tr hb67 (Nat.le_refl _)
            have hu7 : W7.heap[w.heap.size + 2]? = some (.cells #[.int .i64 kk, .int .i64 nn, .slice va k vcap] 24) := (hb7.block _ (by have := HSZ.out; omega)).trans HBU.out
            have cu : W7.cell? ⟨w.heap.size + 2, 2, none⟩ = some (.slice va k vcap) := cell_box hu7 rfl rfl
            have d0 : W7.cell? ⟨w6.heap.size, 0, none⟩ = some (.int .i64 k2) := cell_box hg7 rfl rfl
            have d1 : W7.cell? ⟨w6.heap.size, 1, none⟩ = some (.int .i64 n2) := cell_box hg7 rfl rfl
            have d2 : W7.cell? ⟨w6.heap.size, 2, none⟩ = some (.slice a2 m2 c2) := cell_box hg7 rfl rfl
            have hty7 : TyAt (fun b => wr.heap.size ≤ b ∧ b < W7.heap.size) W7 (Tp.less x bs').1 a2 c2 := ty_same (fun z hz => hb67.block z hz.2) (fun z hz => ⟨hz.1, Nat.lt_of_lt_of_le hz.2 hb67.size⟩) hty2
            have HV2 := Lib.hid hv2; have HT7 := Lib.hid hty7; have HBS2 := Lib.hid hbs2; have HB6 := Lib.hid hb6; have HB67 := Lib.hid hb67; have HB7 := Lib.hid hb7; have HU7 := Lib.hid hu7; have HW7 := Lib.hid hW7
            have HL7 := Lib.hid (show w.heap.size + 2 < W7.heap.size by have := HSZ.out; have := hb7.size; omega)
            clear hv2 hty2 hty7 hbs2 hb6 hb67 hb7 hu7 hg7 hW7
            go_upto_region 10 with fail
            rw [HW7.out]
            obtain ⟨k40, kml⟩ := b40 (r := k) (Nat.le_trans (Nat.le_of_lt hlt) HM10.out)
            have B1 := Lib.hid k40; have B2 := Lib.hid kml
            clear k40 kml
            obtain ⟨i0, hi, hz0, hz1, hz2⟩ := info_parts info_ty
            go_wp2_with (at_builtin; refine wpList_append_lies _ rfl (.tmp 49) (.tmp 51) 22 rfl (w.heap.size + 3) 24 i0 (.agg #[.int .i64 0, .int .i64 0, .slice none 0 0]) 3 40 Try.underlying22 hi hz0 hz1 hz2 rfl (by decide) (.slice va k vcap) k (rowCells ks) rfl ((own_len (HROW.out.keep (fun y _ hy => HB7.out.block y hy) HB7.out.size).own HKL.out).alloc _) ⟨W7.heap.size, 0, none⟩ 1 1 [.int .i64 k2, .int .i64 n2, .slice a2 m2 c2] rfl rfl (World.news_of_block (World.alloc_heap_new W7 _)) (three_one _ _ _ _ _) (by decide) B2.out B1.out (by have := HL7.out; simp; omega) (W7.heap.size + 1) (by simp) ?_; intro g2 cap2 w9 own9 gr9 ly9 _; have lu9 := far_own gr9 HB7.out HBU.out HROW.out.own (by omega); have cu9 : w9.cell? ⟨w.heap.size + 2, 2, none⟩ = some (.slice va k vcap) := cell_box lu9 rfl rfl; have fu9 : w9.frozen? ⟨w.heap.size + 2, 2, none⟩ = false := IsC.frozen ⟨_, _, lu9⟩; have OW9 := Lib.hid own9; have GR9 := Lib.hid gr9; have LY9 := Lib.hid ly9; have LU9 := Lib.hid lu9; clear own9 gr9 ly9 lu9)
            have hrow9 := HROW.out.push HKL.out (e := ⟨(Tp.less x bs').1, a2, c2⟩) (fun y _ hy => HB7.out.block y hy) HB7.out.size HSZ.out HT7.out (by simp only [keCells, HV2.out.1, HV2.out.2.1, HV2.out.2.2]; exact OW9.out) GR9.out LY9.out
            have lt9 := far_own GR9.out HB7.out HBT.out HROW.out.own (by omega)
            have lr9 := far_own GR9.out HB7.out HBR.out HROW.out.own (by omega)
            have hb69 : Below w.heap.size W7 w9 := below_push (Below.refl _ _) GR9.out (fun z hz => by have := (HROW.out.own.lt z hz).1; omega) (by have := HL7.out; omega)
            have hsw : w.heap.size ≤ wr.heap.size := HBW.out.size
            have hb9 : Below w.heap.size w w9 := (HBW.out.trans (HB7.out.mono hsw)).trans hb69
            have hn9 : Below w.heap.size w6 w9 := (HB67.out.mono (Nat.le_trans hsw HB6.out.size)).trans hb69
            have hz9 : w.heap.size + 3 ≤ w9.heap.size := by have h1 := GR9.out.size; rw [World.size_alloc] at h1; have h2 := HB7.out.size; have h3 := HSZ.out; omega
            have R9 := Lib.hid hrow9; have LT9 := Lib.hid lt9; have LR9 := Lib.hid lr9; have HB9 := Lib.hid hb9; have HN9 := Lib.hid hn9; have HZ9 := Lib.hid hz9
            clear hrow9 lt9 lr9 hb9 hn9 hz9 hb69 hsw hi hz0 hz1 hz2 d0 d1 d2
            go_wp2_with fail
            go_roundg (m - (k + 1))
            case measure => omega
            case rel =>
              refine ⟨k + 1, ks ++ [⟨(Tp.less x bs').1, a2, c2⟩], _, (Tp.less x bs').2, ba2, bn2, bc2, by omega, by exact wrap_k (Nat.le_trans (Nat.le_of_lt hlt) HM10.out), rfl, HBS2.out.later ((HN9.out.setCell (p := ⟨w.heap.size + 2, 2, none⟩) (by dsimp only; omega) _).mono HNW.out), by rw [List.length_append, HKL.out]; rfl, ?_, R9.out.keep (fun y hy _ => Below.heap_setCell _ _ _ y (by dsimp only; omega)) (by rw [size_setCell]; exact Nat.le_refl _), ?_, ?_, set2 LU9.out, HB9.out.setCell (by dsimp only; omega) _, by rw [size_setCell]; exact HZ9.out, rfl⟩
              · rw [HLE2.out]; simp [Tp.lesses]
              · exact (Below.heap_setCell _ _ _ _ (by dsimp only; omega)).trans LT9.out
              · exact (Below.heap_setCell _ _ _ _ (by dsimp only; omega)).trans LR9.out
          · obtain rfl : k = m := by omega
            have hall : t.kids.drop k = [] := List.drop_eq_nil_of_le (by rw [HV.out.2.2]; exact Nat.le_refl _)
            have hles := HLES.out
            rw [hall] at hles
            simp only [Tp.lesses, List.append_nil] at hles
            have hll := HLS.out
            rw [hles, HV.out.1, HV.out.2.1] at hll
            have HLL := Lib.hid hll
            obtain ⟨z0, z1, z2, f0, f1, f2⟩ := zero_three HBR.out
            have hrow := HROW.out.keep (w' := ((wr.setCell ⟨w.heap.size + 1, 0, none⟩ (.int .i64 kk)).setCell ⟨w.heap.size + 1, 1, none⟩ (.int .i64 nn)).setCell ⟨w.heap.size + 1, 2, none⟩ (.slice va k vcap)) (fun y hy _ => set3_other (by omega)) (by rw [size_setCell, size_setCell, size_setCell]; exact Nat.le_refl _)
            have HR2 := Lib.hid hrow
            have HF := Lib.hid (box_set3 (v0 := .int .i64 kk) (v1 := .int .i64 nn) (v2 := .slice va k vcap) HBR.out)
            have HBF := Lib.hid (put3 (bb := w.heap.size + 1) (v0 := .int .i64 kk) (v1 := .int .i64 nn) (v2 := .slice va k vcap) HBW.out (Nat.le_succ _))
            have HBN := Lib.hid (HBS'.out.later (put3 (bb := w.heap.size + 1) (v0 := .int .i64 kk) (v1 := .int .i64 nn) (v2 := .slice va k vcap) (Below.refl N wr) (by have := HNW.out; omega)))
            clear hall hles hll hrow
            go_wp2_with fail
            have hF := HF.out; have hbF := HBF.out; have hr2 := HR2.out; have hbn := HBN.out
            clear cu cu0 cu1 ct z0 z1 z2 f0 f1 f2
            generalize ((wr.setCell ⟨w.heap.size + 1, 0, none⟩ (.int .i64 kk)).setCell ⟨w.heap.size + 1, 1, none⟩ (.int .i64 nn)).setCell ⟨w.heap.size + 1, 2, none⟩ (.slice va k vcap) = F at hF hbF hr2 hbn ⊢
            have hsl := hr2.kids.2
            have hty : TyAt (fun b => w.heap.size ≤ b ∧ b < F.heap.size) F (.mk kk nn (ks.map Ke.t)) va vcap := ty_same (fun _ _ => rfl) (fun z hz => ⟨by have := hz.1; omega, hz.2⟩) (show TyAt (fun b => w.heap.size + 3 ≤ b ∧ b < F.heap.size) F (.mk kk nn (ks.map Ke.t)) va vcap from ⟨HI.out.1, HI.out.2, hsl⟩)
            refine bodyPost_ret_by (v := .tuple #[.agg #[.int .i64 kk, .int .i64 nn, .slice va k vcap], .slice ba' bn' bc']) ?_ rfl ⟨kk, nn, k, va, vcap, ba', bn', bc', by rw [HLL.out]; exact ⟨rfl, rfl, (List.length_map ..).trans HKL.out⟩, rfl, by rw [HLL.out]; exact hty, by rw [HLL.out]; exact hbn, hbF⟩
            rw [results_cell_tmp (p := 4) (u := 5) (ty := 24) (by kernel_rfl)]
            simp [asAddr, Result.andThen, run_loadVar_row F _ 24 24 _ _ _ hF Try.underlying24 rfl (by kernel_rfl)]
end Go.Proofs.Ytcnnahmchjeakaa
