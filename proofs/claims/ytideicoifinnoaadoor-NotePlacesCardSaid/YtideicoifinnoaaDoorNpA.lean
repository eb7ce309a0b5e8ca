/- The law NotePlaces: its walk. -/
import Derived.Test.YtideicoifinnoaaDoorNcA
import Derived.Test.YtideicoifinnoaaDoorBytes
import Derived.Laws.AppendOwnNone
import Derived.Laws.OwnMore
namespace Go.Proofs.YtideicoifinnoaaDoor
open Go Go.RowKit
open Tp (T)

/-- The cells of tokens. -/
def TokRow (w : World) (a : Option Addr) (L : List Lx.Tok) : Prop :=
  L = [] ∨ ∃ g, a = some ⟨g, 0, none⟩ ∧ g < w.heap.size ∧ ∀ j u, (tokCells L)[j]? = some u → w.cell? ⟨g, j, none⟩ = some u
theorem tokRow_own {w : World} {B : Nat} {a : Option Addr} {n cap : Nat} {L : List Lx.Tok} (h : w.ownsRow B 65 5 (.slice a n cap) L.length (tokCells L)) : n = L.length ∧ TokRow w a L ∧ (a = none → cap = 0) := by
  obtain ⟨a', cap', e⟩ := own_shape' h
  injection e with e1 e2 e3
  refine ⟨e2, ?_, fun h0 => ?_⟩
  · by_cases h0 : L = []
    · exact .inl h0
    · obtain ⟨g, cap2, hv, hlt, hlt2⟩ := h.form (List.length_pos_iff.2 h0)
      injection hv with hv1 hv2 hv3
      subst hv1
      refine .inr ⟨g, rfl, hlt2, fun j u hu => ?_⟩
      have := h.cells (g := g) rfl j u hu
      rw [← this]; congr 1; unfold Addr.add; split <;> simp_all
  · rcases h.2 with ⟨hv, _⟩ | ⟨g, cap2, cur, hv, _⟩
    · injection hv
    · injection hv with hv1; rw [hv1] at h0; cases h0
theorem TokRow.later {w w' : World} {a : Option Addr} {L : List Lx.Tok} (h : TokRow w a L) {B : Nat} (hB : w.heap.size ≤ B) (hb : Below B w w') : TokRow w' a L := by
  rcases h with h | ⟨g, h1, h2, h3⟩
  · exact .inl h
  · exact .inr ⟨g, h1, Nat.lt_of_lt_of_le h2 hb.size, fun j u hu => (hb.cell (p := ⟨g, j, none⟩) (Nat.lt_of_lt_of_le h2 hB)).trans (h3 j u hu)⟩
theorem tokCells_app (a b : List Lx.Tok) : tokCells (a ++ b) = tokCells a ++ tokCells b := by simp [tokCells]
set_option maxRecDepth 100000 in
/-- 'append(v, x...)' on tokens: v a row of the call's own. -/
theorem append_toks {w : World} {ops : Array Oper} {rest : List Oper} {o : Oper} {act : Act} {Q : Exit → Act → World → Prop} (hgd : o.guard = none) (s x : Operand)
    (ho : o.op = .call { callee := .builtin .append, args := #[s, x], argTypes := #[34, 34] })
    (base : Nat) (v : Value) (k : Nat) (xs l : List Lx.Tok) (hs : act.eval s = v) (hown : w.ownsRow base 65 5 v k (tokCells xs)) (hk : k = xs.length)
    (a : Option Addr) (n c : Nat) (hn : n = l.length) (hc : a = none → c = 0) (hx : act.eval x = .slice a n c) (hh : TokRow w a l) (hlen : xs.length + l.length ≤ 100000) (hbase : base ≤ w.heap.size)
    (h : ∀ v' w', w'.ownsRow base 65 5 v' (xs ++ l).length (tokCells (xs ++ l)) → Below base w w' → wpList Tryd.prog ops Q rest (act.put o.dst v') w') : wpList Tryd.prog ops Q (o :: rest) act w := by
  obtain ⟨i0, hi, hz0, hz1, hz2⟩ := info_parts info_tok
  subst hk hn
  cases a with
  | none =>
    have hl : l = [] := by
      rcases hh with h0 | ⟨g, h1, _⟩
      · exact h0
      · cases h1
    subst hl
    rw [hc rfl] at hx
    refine wpList_append_own_none hgd s x 34 ho base 65 i0 5 Tryd.underlying34 hi v xs.length (tokCells xs) hs hown hx ?_
    exact h v w (by rw [List.append_nil]; exact hown) (Below.refl _ _)
  | some ad =>
    refine wpList_append_own w hgd s x 34 ho base 65 i0 (.agg #[.int .i64 0, .int .i64 0, .int .i64 0, .string ByteArray.empty, .int .i64 0]) 5 48 Tryd.underlying34 hi hz0 hz1 hz2 (by kernel_rfl) (by decide) v xs.length (tokCells xs) hs hown ad l.length c (tokCells l) hx (tokCells_len l) ?_ ?_ (by unfold maxLen; omega) (by omega) hbase ?_
    · intro j u hu
      rcases hh with h0 | ⟨g, h1, _, h3⟩
      · subst h0; simp [tokCells] at hu
      · injection h1 with h1
        subst h1
        have e : ((⟨g, 0, none⟩ : Addr).add j) = ⟨g, j, none⟩ := by unfold Addr.add; split <;> simp_all
        rw [e]
        exact h3 j u hu
    · intro u hu
      simp only [tokCells, List.mem_flatMap] at hu
      obtain ⟨y, _, hy⟩ := hu
      simp only [tokRow, List.mem_cons, List.not_mem_nil, or_false] at hy
      rcases hy with rfl | rfl | rfl | rfl | rfl <;> rfl
    · intro v' w' h1 h2 _
      refine h v' w' (by rw [tokCells_app, List.length_append]; exact h1) ((Below.refl _ _).grown h2 hbase (fun g hg => (hown.lt g hg).1))
theorem scanAll_len2 {l : List UInt8} {L : List Lx.Tok} (h : scanAll l = .good L) : L.length ≤ 50000 := by
  unfold scanAll at h
  split at h
  · cases h
  · have := Lx.scan_len _ l (Nat.lt_succ_self _) 0 L h
    omega
theorem read_end (L : List Lx.Tok) : readOut L (L.length : Int) = (Nt.noT, L.length, 3) := by
  have e : ksAt L L.length = [] := ksAt_end (List.getElem?_eq_none_iff.2 (Nat.le_refl _))
  exact readOut_no (Nat.le_refl _) (Nat.le_refl _) (by rw [e]; exact Nt.read_nil [])
set_option maxRecDepth 100000 in
set_option maxHeartbeats 4000000 in
theorem walk_notePlaces (t : T) (a : Option Addr) (cap : Nat) (x0 : Option Addr) (n9 c9 : Nat) (x : Int) (w : World) (hg : Good w) (hx : I64 x) (hty : TyAt (LT w.heap.size) w t a cap) (hby : BytesAt w x0 n9 c9) :
    Calls Tryd.prog 7 #[tv t a cap, .slice x0 n9 c9, .int .i64 x] w fun e w' => e = .returned (.bool true) ∧ Below w.heap.size w w' := by
  obtain ⟨k0, hk0⟩ : ∃ k0, t.kind = k0 := ⟨_, rfl⟩
  obtain ⟨n0, hn0⟩ : ∃ n0, t.num = n0 := ⟨_, rfl⟩
  obtain ⟨m0, hm0⟩ : ∃ m0, t.kids.length = m0 := ⟨_, rfl⟩
  obtain ⟨hv, hhv⟩ : ∃ hv, decide (600 < Tp.sizes [t]) = hv := ⟨_, rfl⟩
  obtain ⟨W0, hW0⟩ : ∃ W, w.alloc (.cells #[.int .i64 k0, .int .i64 n0, .slice a m0 cap] 24) = W := ⟨_, rfl⟩
  obtain ⟨hcell, htw, hle, hbw⟩ := box_facts hty (k := k0) (n := n0) (m := m0)
  rw [hW0] at hcell htw hle hbw
  have hgw := fun w1 (hb : Below (w.heap.size + 1) W0 w1) => hg.below (hbw w1 hb)
  have hhe := fun w1 (hb : Below (w.heap.size + 1) W0 w1) => heavy_any [t] (some ⟨w1.heap.size, 0, none⟩) 1 _ (by simp) (row_one (htw w1 hb) hk0 hn0 hm0)
  have hsz : hv = false → Tp.size t ≤ 600 := fun h => by
    rw [h, sizes_one] at hhv
    simp only [decide_eq_false_iff_not] at hhv
    omega
  have hra := fun w1 (hb : Below (w.heap.size + 1) W0 w1) => rright_any _ t a cap w1 (Nat.le_refl _) (htw w1 hb)
  have hca := fun w1 (hb : Below (w.heap.size + 1) W0 w1) => rwithout_any 6 _ t a cap w1 (Nat.le_refl _) (htw w1 hb)
  have hta := fun w1 (hb : Below (w.heap.size + 1) W0 w1) (h : Tp.size t ≤ 600) => text_any t a cap w1 (sz_le h) (htw w1 hb) (hgw w1 hb)
  have hwk := fun w1 (hb : Below (w.heap.size + 1) W0 w1) => wakes_any w1 (hgw w1 hb)
  obtain ⟨r1, hr1⟩ : ∃ x, Tp.right t = x := ⟨_, rfl⟩
  obtain ⟨c1, hc1⟩ : ∃ x, Tp.without 6 t = x := ⟨_, rfl⟩
  obtain ⟨s1, hs1⟩ : ∃ x, textOf t = x := ⟨_, rfl⟩
  obtain ⟨bs, hbs, hbh⟩ := hby.2.2.2
  have hho := fun w1 (hb : Below (w.heap.size + 1) W0 w1) => hbh.below (Nat.le_refl _) (hbw w1 hb)
  have hsm := fun w1 (hb : Below (w.heap.size + 1) W0 w1) a' cap' (hx : TyAt (LT w1.heap.size) w1 t a' cap') => ksame_any _ t t a' cap' a cap w1 (Nat.le_refl _) hx (htw w1 hb)
  simp only [Tp.same_refl] at hsm
  have hsc : hv = false → r1 = true → c1 = true → ∃ L, scanAll s1 = .good L ∧ L.length ≤ 50000 ∧ ∀ A : List Lx.Tok, readOut (A ++ L) (A.length : Int) = (t, (A ++ L).length, 0) := fun h1 h2 h3 => by
    obtain ⟨L, hL, hk, h0⟩ := tokens_of (hr1.trans h2) (hc1.trans h3) (hsz h1)
    have hlen := scanAll_len2 hL
    rw [← hs1]
    unfold textOf
    rw [if_pos (hr1.trans h2)]
    refine ⟨L, hL, hlen, fun A => ?_⟩
    have := back_read (A := A) (r := []) (hr1.trans h2) (hc1.trans h3) (by rw [List.append_nil]; exact hk) Nt.stopK_nil
    rw [this, List.length_append, ← hk, List.length_map]
  rw [hr1] at hra
  rw [hc1] at hca
  rw [hs1, hr1] at hta
  unfold tv at hra hca hta hsm ⊢
  rw [hhv] at hhe
  simp only [hk0, hn0, hm0] at hra hca hta hsm
  rw [hk0, hn0, hm0]
  have b0 := Below.refl (w.heap.size + 1) W0
  have HC := Lib.hid hcell; have HLE := Lib.hid hle; have HBW := Lib.hid hbw; have HHE := Lib.hid hhe; have HRA := Lib.hid hra; have HCA := Lib.hid hca; have HTA := Lib.hid hta; have HWK := Lib.hid hwk; have HSZ := Lib.hid hsz; have HB0 := Lib.hid b0; have HW0 := Lib.hid hW0
  have HSC := Lib.hid hsc; have HSM := Lib.hid hsm; have HHO := Lib.hid hho; have HBS := Lib.hid hbs; have HGW := Lib.hid hgw; have HX := Lib.hid hx
  have HK0 := Lib.hid hk0; have HN0 := Lib.hid hn0; have HM0 := Lib.hid hm0
  clear hcell hle hbw hhe hra hca hta hwk hsz b0 hW0 htw hgw hg hty hk0 hn0 hm0 hhv hr1 hc1 hs1 hsc hsm hho hbs hbh hby hx
  go_enter Tryd.func7, Tryd.ntmps7
  go_upto_region 1 with fail
  rw [HW0.out]
  obtain ⟨d0, d1, d2⟩ := HC.out W0 HB0.out
  go_wp2_with fail
  refine (HHE.out _ HB0.out).mono ?_
  rintro e w1 ⟨rfl, hb1⟩
  have HB1 := Lib.hid ((HB0.out.alloc (HLE.out _ HB0.out) _).trans (hb1.mono (by rw [World.size_alloc]; have := HLE.out _ HB0.out; omega)))
  clear hb1 d0 d1 d2
  cases hv with
  | true =>
    go_wp2_with fail
    go_ret
    exact ⟨rfl, HBW.out _ HB1.out⟩
  | false =>
    have hz := HSZ.out rfl
    have HSC2 := Lib.hid (HSC.out rfl)
    clear HSC
    obtain ⟨d0, d1, d2⟩ := HC.out _ HB1.out
    go_wp2_with fail
    refine (HRA.out _ HB1.out).mono ?_
    rintro e w2 ⟨rfl, hb2⟩
    have HB2 := Lib.hid (HB1.out.trans (hb2.mono (HLE.out _ HB1.out)))
    clear hb2 d0 d1 d2
    cases r1 with
    | false =>
      go_wp2_with fail
      go_ret
      exact ⟨rfl, HBW.out _ HB2.out⟩
    | true =>
      obtain ⟨d0, d1, d2⟩ := HC.out _ HB2.out
      go_wp2_with fail
      refine (HCA.out _ HB2.out).mono ?_
      rintro e w3 ⟨rfl, hb3⟩
      have HB3 := Lib.hid (HB2.out.trans (hb3.mono (HLE.out _ HB2.out)))
      clear hb3 d0 d1 d2
      cases c1 with
      | false =>
        go_wp2_with fail
        go_ret
        exact ⟨rfl, HBW.out _ HB3.out⟩
      | true =>
        have HSC3 := Lib.hid (HSC2.out (by trivial) (by trivial))
        clear HSC2
        by_cases h5 : 500 < n9
        · have h5' : (n9 : Int) > 500 := by omega
          go_wp2_with fail
          go_ret
          exact ⟨rfl, HBW.out _ HB3.out⟩
        · have h5' : ¬ (n9 : Int) > 500 := by omega
          have hss := scan_any x0 c9 bs w3 (HHO.out _ HB3.out) (HGW.out _ HB3.out)
          rw [HBS.out] at hss
          obtain ⟨L, hL, hL1, hrd⟩ := HSC3.out
          obtain ⟨R, hR⟩ : ∃ R, scanAll bs = R := ⟨_, rfl⟩
          rw [hR] at hss
          have HSS := Lib.hid hss; have HL := Lib.hid hL; have HL1 := Lib.hid hL1; have HRD := Lib.hid hrd
          clear hss hL hL1 hrd HSC3
          cases R with
          | bad at_ =>
            go_wp2_with fail
            refine HSS.out.mono ?_
            rintro e w4 ⟨rfl, hb4⟩
            have HB4 := Lib.hid (HB3.out.trans (hb4.mono (HLE.out _ HB3.out)))
            obtain ⟨d0, d1, d2⟩ := HC.out _ HB4.out
            clear hb4
            go_wp2_with fail
            refine (HTA.out _ HB4.out hz).mono ?_
            rintro e w5 ⟨rfl, hb5⟩
            rw [show errOf true = 0 from rfl]
            clear d0 d1 d2
            have hb5' := HB4.out.trans (hb5.mono (HLE.out _ HB4.out))
            obtain ⟨cap1, w6, hcv, hH, hB⟩ := conv_bytes s1 w5
            have hb6 := hb5'.trans (hB.mono (HLE.out _ hb5'))
            have hss := scan_any _ cap1 _ w6 hH (HGW.out _ hb6)
            rw [HL.out] at hss
            obtain ⟨n, hn⟩ : ∃ n, s1.length = n := ⟨_, rfl⟩
            rw [hn] at hcv hss
            have HB6 := Lib.hid hb6; have HST := Lib.hid hss; have HB46 := Lib.hid (hb5.trans (hB.mono hb5.size))
            clear hb5 hb5' hb6 hss hH hB hn
            go_wp2_with fail
            refine HST.out.mono ?_
            rintro e w7 ⟨v7, rfl, hown7, hb7⟩
            have HB7 := Lib.hid (HB6.out.trans (hb7.mono (HLE.out _ HB6.out)))
            obtain ⟨a7, cap7, rfl⟩ := own_shape' hown7
            clear hcv
            clear hown7 hb7
            have hl1 := HL1.out
            obtain ⟨ll, hll⟩ : ∃ ll, L.length = ll := ⟨_, rfl⟩
            rw [hll] at hl1 ⊢
            have hw : wrap64 (ll : Int) = (ll : Int) := by unfold wrap64; omega
            have hp : (ll : Int) ≥ 0 := by omega
            go_wp2_with fail
            refine (HWK.out _ HB7.out).mono ?_
            rintro e wb ⟨rfl, hbb⟩
            have HBB := Lib.hid (HB7.out.trans (hbb.mono (HLE.out _ HB7.out)))
            clear hbb
            go_wp2_with fail
            go_ret
            exact ⟨rfl, HBW.out _ HBB.out⟩
          | good A =>
            have HA1 := Lib.hid (scanAll_len2 hR)
            go_wp2_with fail
            refine HSS.out.mono ?_
            rintro e w4 ⟨v4, rfl, hown4, hb4⟩
            have HB4 := Lib.hid (HB3.out.trans (hb4.mono (HLE.out _ HB3.out)))
            obtain ⟨d0, d1, d2⟩ := HC.out _ HB4.out
            go_wp2_with fail
            obtain ⟨a4, cap4, rfl⟩ := own_shape' hown4
            obtain ⟨-, hr4, hn4⟩ := tokRow_own hown4
            have HR4 := Lib.hid hr4; have HN4 := Lib.hid hn4
            clear hown4 hr4 hn4 hb4
            refine (HTA.out _ HB4.out hz).mono ?_
            rintro e w5 ⟨rfl, hb5⟩
            rw [show errOf true = 0 from rfl]
            clear d0 d1 d2
            have hb5' := HB4.out.trans (hb5.mono (HLE.out _ HB4.out))
            obtain ⟨cap1, w6, hcv, hH, hB⟩ := conv_bytes s1 w5
            have hb6 := hb5'.trans (hB.mono (HLE.out _ hb5'))
            have hss := scan_any _ cap1 _ w6 hH (HGW.out _ hb6)
            rw [HL.out] at hss
            obtain ⟨n, hn⟩ : ∃ n, s1.length = n := ⟨_, rfl⟩
            rw [hn] at hcv hss
            have HB6 := Lib.hid hb6; have HST := Lib.hid hss; have HB46 := Lib.hid (hb5.trans (hB.mono hb5.size))
            clear hb5 hb5' hb6 hss hH hB hn
            go_wp2_with fail
            refine HST.out.mono ?_
            rintro e w7 ⟨v7, rfl, hown7, hb7⟩
            have HB7 := Lib.hid (HB6.out.trans (hb7.mono (HLE.out _ HB6.out)))
            obtain ⟨a7, cap7, rfl⟩ := own_shape' hown7
            clear hcv
            obtain ⟨-, hr7, hn7⟩ := tokRow_own hown7
            have HR7 := Lib.hid hr7; have HN7 := Lib.hid hn7
            have HR47 := Lib.hid (HR4.out.later (Nat.le_refl _) (HB46.out.trans (hb7.mono HB46.out.size)))
            clear hown7 hb7 hr7 hn7 HR4
            have hlen := HL1.out
            have hlenA := HA1.out
            go_wp2_with (first
              | (at_builtin; refine append_toks rfl (.tmp 80) (.tmp 81) rfl w7.heap.size _ 0 [] A rfl (World.ownsRow_lit w7 #[] 0 (Nat.le_refl _) (by decide) rfl) rfl a4 A.length cap4 rfl HN4.out rfl (HR47.out.later (Nat.le_refl _) ((Below.refl _ _).alloc (Nat.le_refl _) _)) (by simp; omega) (by simp) ?_; intro v8 w8 hown8 hb8; have B8 := Lib.hid (((Below.refl w7.heap.size w7).alloc (Nat.le_refl _) (.cells #[] 65)).trans hb8); clear hb8)
              | (at_builtin; refine append_toks rfl (.tmp 82) (.tmp 83) rfl w7.heap.size _ _ ([] ++ A) L rfl hown8 rfl a7 L.length cap7 rfl HN7.out rfl (HR7.out.later (Nat.le_refl _) B8.out) (by simp; omega) B8.out.size ?_; intro v9 w9 hown9 hb9; have B9 := Lib.hid (B8.out.trans hb9); clear hb9))
            have HB9 := Lib.hid (HB7.out.trans (B9.out.mono (HLE.out _ HB7.out)))
            rw [List.nil_append] at hown9
            obtain ⟨a9, cap9, rfl⟩ := own_shape' hown9
            have ht := (tks_own hown9).2
            have hAL : (A ++ L).length ≤ 100000 := by rw [List.length_append]; omega
            have hro1 := HRD.out A
            have hrd1 := fun w1 (hb : Below w9.heap.size w9 w1) (hgg : Good w1) => read_any a9 cap9 (A ++ L) (A.length : Int) w1 (ht.later hb) hAL (by unfold I64; omega) hgg
            have hrd2 := fun w1 (hb : Below w9.heap.size w9 w1) (hgg : Good w1) => read_any a9 cap9 (A ++ L) ((A ++ L).length : Int) w1 (ht.later hb) hAL (by unfold I64; omega) hgg
            have hrd3 := fun w1 (hb : Below w9.heap.size w9 w1) (hgg : Good w1) => read_any a9 cap9 (A ++ L) x w1 (ht.later hb) hAL HX.out hgg
            unfold ReadPost at hrd1 hrd2 hrd3
            rw [hro1] at hrd1
            rw [read_end] at hrd2
            have hout := fun h => readOut_out (L := A ++ L) (i := x) h
            obtain ⟨⟨u3, n3, e3⟩, h3⟩ : ∃ r, readOut (A ++ L) x = r := ⟨_, rfl⟩
            simp only [h3] at hrd3 hout
            obtain ⟨k3, hk3⟩ : ∃ q, u3.kind = q := ⟨_, rfl⟩
            obtain ⟨q3, hq3⟩ : ∃ q, u3.num = q := ⟨_, rfl⟩
            obtain ⟨m3, hm3⟩ : ∃ q, u3.kids.length = q := ⟨_, rfl⟩
            unfold tv at hrd1 hrd2 hrd3
            simp only [HK0.out, HN0.out, HM0.out] at hrd1
            simp only [hk3, hq3, hm3] at hrd3
            simp only [show Nt.noT.kind = 0 from rfl, show Nt.noT.num = 0 from rfl, show Nt.noT.kids.length = 0 from rfl] at hrd2
            obtain ⟨tt, htt⟩ : ∃ tt, (A ++ L).length = tt := ⟨_, rfl⟩
            simp only [htt] at hrd1 hrd2 hrd3 hout hAL ⊢
            obtain ⟨aa, haa⟩ : ∃ aa, A.length = aa := ⟨_, rfl⟩
            simp only [haa] at hrd1 ⊢
            have HR1 := Lib.hid hrd1; have HR2 := Lib.hid hrd2; have HR3 := Lib.hid hrd3; have HOUT := Lib.hid hout; have HAL := Lib.hid hAL
            clear hrd1 hrd2 hrd3 hout hAL ht hown9 hown8 hlen hlenA hro1 h3 hk3 hq3 hm3 htt haa B8 HR7 HR47 HN7 HN4
            go_wp2_with fail
            refine (HR1.out _ (Below.refl _ _) (HGW.out _ HB9.out)).mono ?_
            rintro e wd ⟨ad, capd, rfl, htyd, hbd⟩
            have hbd' := HB9.out.trans (hbd.mono (HLE.out _ HB9.out))
            have hal : Below wd.heap.size wd (wd.alloc (.cells #[.int .i64 k0, .int .i64 n0, .slice ad m0 capd] 24)) := (Below.refl _ _).alloc (Nat.le_refl _) _
            have hnw := World.alloc_heap_new wd (.cells #[.int .i64 k0, .int .i64 n0, .slice ad m0 capd] 24)
            have htyf := htyd.below hal (fun _ h => h) (fun b h => Nat.lt_of_lt_of_le h hal.size)
            obtain ⟨we, hwe⟩ : ∃ we, wd.alloc (.cells #[.int .i64 k0, .int .i64 n0, .slice ad m0 capd] 24) = we := ⟨_, rfl⟩
            rw [hwe] at hal hnw htyf
            have HBE := Lib.hid (hbd'.trans (hal.mono (HLE.out _ hbd'))); have H9E := Lib.hid (hbd.trans (hal.mono hbd.size)); have HNW := Lib.hid hnw; have HTYE := Lib.hid htyf; have HWE := Lib.hid hwe
            clear hbd hbd' hal hnw htyf hwe htyd
            go_upto_region 10 with fail
            rw [HWE.out]
            go_wp2_with fail
            refine (HR2.out _ H9E.out (HGW.out _ HBE.out)).mono ?_
            rintro e wf ⟨af, capf, rfl, -, hbf⟩
            have hbf' := HBE.out.trans (hbf.mono (HLE.out _ HBE.out))
            have hal : Below wf.heap.size wf (wf.alloc (.cells #[.int .i64 0, .int .i64 0, .slice af 0 capf] 24)) := (Below.refl _ _).alloc (Nat.le_refl _) _
            obtain ⟨wg, hwg⟩ : ∃ wg, wf.alloc (.cells #[.int .i64 0, .int .i64 0, .slice af 0 capf] 24) = wg := ⟨_, rfl⟩
            rw [hwg] at hal
            have heg := hbf.trans (hal.mono hbf.size)
            have HBG := Lib.hid (hbf'.trans (hal.mono (HLE.out _ hbf'))); have H9G := Lib.hid (H9E.out.trans (heg.mono H9E.out.size)); have HEG := Lib.hid heg; have HWG := Lib.hid hwg
            clear hbf hbf' hal hwg heg
            go_upto_region 11 with fail
            rw [HWG.out]
            go_wp2_with fail
            refine (HR3.out _ H9G.out (HGW.out _ HBG.out)).mono ?_
            rintro e wh ⟨ah, caph, rfl, -, hbh2⟩
            have hbh' := HBG.out.trans (hbh2.mono (HLE.out _ HBG.out))
            have hal : Below wh.heap.size wh (wh.alloc (.cells #[.int .i64 k3, .int .i64 q3, .slice ah m3 caph] 24)) := (Below.refl _ _).alloc (Nat.le_refl _) _
            obtain ⟨wi, hwi⟩ : ∃ wi, wh.alloc (.cells #[.int .i64 k3, .int .i64 q3, .slice ah m3 caph] 24) = wi := ⟨_, rfl⟩
            rw [hwi] at hal
            have hei := HEG.out.trans ((hbh2.trans (hal.mono hbh2.size)).mono HEG.out.size)
            have hbi := hbh'.trans (hal.mono (HLE.out _ hbh'))
            have hed : wd.heap.size < we.heap.size := (Array.getElem?_eq_some_iff.1 HNW.out).1
            have y0 : wi.cell? ⟨wd.heap.size, 0, none⟩ = some (.int .i64 k0) := cell_box HNW.out (hei.block _ hed) rfl
            have y1 : wi.cell? ⟨wd.heap.size, 1, none⟩ = some (.int .i64 n0) := cell_box HNW.out (hei.block _ hed) rfl
            have y2 : wi.cell? ⟨wd.heap.size, 2, none⟩ = some (.slice ad m0 capd) := cell_box HNW.out (hei.block _ hed) rfl
            have hsmf := HSM.out wi hbi ad capd (HTYE.out.below hei (fun _ h => h) (fun b h => Nat.lt_of_lt_of_le h hei.size))
            obtain ⟨d0, d1, d2⟩ := HC.out _ hbi
            have HBF := Lib.hid hbi; have HSMF := Lib.hid hsmf; have HWI := Lib.hid hwi
            clear hbh2 hbh' hal hwi hei hbi hed hsmf
            go_upto_region 12 with fail
            rw [HWI.out]
            by_cases hx0 : x < 0
            · obtain ⟨rfl, rfl, rfl⟩ : u3 = Nt.noT ∧ n3 = 0 ∧ e3 = 1 := by have := HOUT.out (.inl hx0); simpa using this
              go_wp2_with fail
              refine HSMF.out.mono ?_
              rintro e wa ⟨rfl, hba⟩
              have HBA := Lib.hid (HBF.out.trans (hba.mono (HLE.out _ HBF.out)))
              clear hba y0 y1 y2 d0 d1 d2
              go_wp2_with fail
              refine (HWK.out _ HBA.out).mono ?_
              rintro e wb ⟨rfl, hbb⟩
              have HBB := Lib.hid (HBA.out.trans (hbb.mono (HLE.out _ HBA.out)))
              clear hbb
              go_wp2_with fail
              go_ret
              exact ⟨rfl, HBW.out _ HBB.out⟩
            · by_cases hx1 : x > (tt : Int)
              · obtain ⟨rfl, rfl, rfl⟩ : u3 = Nt.noT ∧ n3 = 0 ∧ e3 = 1 := by have := HOUT.out (.inr hx1); simpa using this
                go_wp2_with fail
                refine HSMF.out.mono ?_
                rintro e wa ⟨rfl, hba⟩
                have HBA := Lib.hid (HBF.out.trans (hba.mono (HLE.out _ HBF.out)))
                clear hba y0 y1 y2 d0 d1 d2
                go_wp2_with fail
                refine (HWK.out _ HBA.out).mono ?_
                rintro e wb ⟨rfl, hbb⟩
                have HBB := Lib.hid (HBA.out.trans (hbb.mono (HLE.out _ HBA.out)))
                clear hbb
                go_wp2_with fail
                go_ret
                exact ⟨rfl, HBW.out _ HBB.out⟩
              · clear HOUT
                go_wp2_with fail
                refine HSMF.out.mono ?_
                rintro e wa ⟨rfl, hba⟩
                have HBA := Lib.hid (HBF.out.trans (hba.mono (HLE.out _ HBF.out)))
                clear hba y0 y1 y2 d0 d1 d2
                go_wp2_with fail
                refine (HWK.out _ HBA.out).mono ?_
                rintro e wb ⟨rfl, hbb⟩
                have HBB := Lib.hid (HBA.out.trans (hbb.mono (HLE.out _ HBA.out)))
                clear hbb
                go_wp2_with fail
                go_ret
                exact ⟨rfl, HBW.out _ HBB.out⟩
end Go.Proofs.YtideicoifinnoaaDoor
