/- store.Copy. What a copy stands for, plainly. -/
import Derived.Test.YteolbbgnkbcfmaaSuN
import Derived.Test.YteolbbgnkbcfmaaStB
import Derived.Test.YteolbbgnkbcfmaaSuG
namespace Go.Proofs.Yteolbbgnkbcfmaa
open Go Go.RowKit
open Tp (T)
open Sg (Of Rt Den Dens Alk Mkd trav travs rootOf kidsOf)
def cpK (H : List SNd) (M : IMap) (x : Int) : Int := (cpOf M (rootOf H x.toNat) : Int)
/-- A root's copy. -/
def cpNode (H : List SNd) (M : IMap) (r : Nat) : Sg.Cr := match H[r]? with
  | some e => ⟨e.c.kind, e.c.level, if 0 < ar e.c.kind then cpK H M e.c.a else e.c.a, if 1 < ar e.c.kind then cpK H M e.c.b else e.c.b, e.c.met⟩
  | none => ⟨0, 0, 0, 0, 0⟩
/-- The store with the copies of some roots. -/
def cpAll (H : List SNd) (M : IMap) (l : List Nat) : List SNd := l.foldl (fun A r => A ++ [⟨cpNode H M r, A.length⟩]) H
theorem cpAll_snoc (H : List SNd) (M : IMap) (l : List Nat) (r : Nat) : cpAll H M (l ++ [r]) = cpAll H M l ++ [⟨cpNode H M r, (cpAll H M l).length⟩] := by unfold cpAll; rw [List.foldl_append]; rfl
theorem cpAll_pre (H : List SNd) (M : IMap) (l : List Nat) : ∃ N, cpAll H M l = H ++ N ∧ N.length = l.length := by
  have key : ∀ (l : List Nat) (A : List SNd), ∃ N, l.foldl (fun A r => A ++ [(⟨cpNode H M r, A.length⟩ : SNd)]) A = A ++ N ∧ N.length = l.length := fun l => by
    induction l with
    | nil => intro A; exact ⟨[], by simp, rfl⟩
    | cons r l ih =>
      intro A
      obtain ⟨N, h1, h2⟩ := ih (A ++ [⟨cpNode H M r, A.length⟩])
      exact ⟨⟨cpNode H M r, A.length⟩ :: N, by rw [List.foldl_cons, h1]; simp, by simp [h2]⟩
  exact key l H
theorem cpAll_len (H : List SNd) (M : IMap) (l : List Nat) : (cpAll H M l).length = H.length + l.length := by
  obtain ⟨N, h1, h2⟩ := cpAll_pre H M l
  rw [h1, List.length_append, h2]
theorem cpAll_get {H : List SNd} {M : IMap} {l : List Nat} {i : Nat} {d : SNd} (h : H[i]? = some d) : (cpAll H M l)[i]? = some d := by
  obtain ⟨N, h1, _⟩ := cpAll_pre H M l
  rw [h1, List.getElem?_append_left (List.getElem?_eq_some_iff.1 h).1]; exact h
theorem imUp_key {fs ts : List Nat} {i : Int} {e : Nat} : ∀ k, imUp fs ts k i = some e → ∃ j, j < k ∧ i = ((fs.getD j 0 : Nat) : Int)
  | 0, h => by cases h
  | k + 1, h => by
    unfold imUp imPut at h
    split at h
    · rename_i hi; exact ⟨k, by omega, hi⟩
    · obtain ⟨j, h1, h2⟩ := imUp_key k h
      exact ⟨j, by omega, h2⟩
theorem NatsAt.stay {w w' : World} {l : List Nat} {a : Option Addr} (h : NatsAt w l a) (hs : ∀ b o, a = some ⟨b, o, none⟩ → w'.heap[b]? = w.heap[b]?) : NatsAt w' l a := fun i hi => by
  obtain ⟨b, rfl, hc⟩ := h i hi
  exact ⟨b, rfl, (World.cell?_of_block (a := ⟨b, i, none⟩) (hs b 0 rfl)).trans hc⟩
section
variable {B s g cap : Nat} {L C K : Int} {w : World} {H : List SNd}
theorem SV.six (h : SV B s g cap L C K w H) {p : Nat} {d : SNd} (hd : H[p]? = some d) : ∃ u : Int, w.cell? ⟨g, p * 6, none⟩ = some (.int .i64 d.c.kind) ∧ w.cell? ⟨g, p * 6 + 1, none⟩ = some (.int .i64 d.c.level) ∧ w.cell? ⟨g, p * 6 + 2, none⟩ = some (.int .i64 d.c.a) ∧ w.cell? ⟨g, p * 6 + 3, none⟩ = some (.int .i64 d.c.b) ∧ w.cell? ⟨g, p * 6 + 4, none⟩ = some (.int .i64 u) ∧ w.cell? ⟨g, p * 6 + 5, none⟩ = some (.int .i64 d.c.met) := by
  obtain ⟨G, hO, hown⟩ := h.row
  obtain ⟨n1, n2, n3, n4, n5⟩ := h.node hd
  obtain ⟨gd, hgd, _⟩ := hO.get hd
  exact ⟨_, n1, n2, n3, n4, (nd_cells hown hgd).2.2.2.2.1, n5⟩
/-- What Copy hands back. -/
def CpP (B s g : Nat) (L C K : Int) (H : List SNd) (M : IMap) (l : List Nat) (r : Nat) (w : World) (e : Ending) (w' : World) : Prop := ∃ H1 g' cap', Alk H H1 ∧ (∀ d ∈ H1, d.c.met ≤ K + 1) ∧ e = .returned (.tuple #[.int .i64 (cpOf M r : Int), .int .i64 0]) ∧ SV B s g' cap' L (C + l.length) (K + 1) w' (cpAll H1 M l) ∧ Kp w.heap.size (fun k => k = s ∨ k = g) w w' ∧ (g' = g ∨ w.heap.size ≤ g')
set_option maxRecDepth 100000 in
set_option maxHeartbeats 8000000 in
theorem copy12_any (h : SV B s g cap L C K w H) (hm : ∀ d ∈ H, d.c.met ≤ K) (hK : 0 ≤ K ∧ K < 4611686018427387904) (hBd : Bds L C H) {t : T} {p : Nat} (hD : Den H t p) (hsz : Tp.size t ≤ 1000000)
    (fs ts : List Nat) (fa ta : Option Addr) (fc tc : Nat) (hlen : fs.length = ts.length) (hl : fs.length ≤ 1000000) (hfa : NatsAt w fs fa) (hta : NatsAt w ts ta)
    (hfg : ∀ b o, fa = some ⟨b, o, none⟩ → b ≠ g ∧ b < w.heap.size) (htg : ∀ b o, ta = some ⟨b, o, none⟩ → b ≠ g ∧ b < w.heap.size)
    (hfv : ∀ i (hi : i < fs.length), ∃ d : SNd, H[fs[i]]? = some d ∧ d.up = fs[i] ∧ d.c.kind = 6) (hfn : fs.Nodup) (htl : ∀ x ∈ ts, x < H.length)
    (hnd : (trav H t p []).Nodup) {M : IMap} {l : List Nat} (hch : chg H H.length (imUp fs ts fs.length) (trav H t p []) = (M, l)) (hfit : (l.length : Int) ≤ L - C)
    (hval : ∀ q ∈ l, q < H.length ∧ ∀ x ∈ kidsOf H q, ∃ (p : Nat) (d : SNd), x = (p : Int) ∧ H[p]? = some d) :
    Calls Try.prog 27 #[.pointer (some ⟨s, 0, none⟩), .int .i64 (p : Int), .slice fa fs.length fc, .slice ta ts.length tc] w (CpP B s g L C K H M l (rootOf H p) w) := by
  have hbig : H.length ≤ 1000000 := by have := hBd.n; have := hBd.cl; have := hBd.l; omega
  have hpl : p < H.length := by obtain ⟨d, _, hd, _⟩ := hD.open; exact (List.getElem?_eq_some_iff.1 hd).1
  have hrp := repl12_any h fs ts fa ta fc tc hlen hl hfa hta hfg htg hfv hfn htl hbig
  have hM0 : ∀ i e, imUp fs ts fs.length i = some e → ∃ (v : Nat) (d : SNd), i = (v : Int) ∧ H[v]? = some d ∧ d.c.kind = 6 := fun i e he => by
    obtain ⟨j, h1, h2⟩ := imUp_key _ he
    obtain ⟨d, q1, _, q3⟩ := hfv j h1
    exact ⟨_, d, h2, by rw [List.getD_eq_getElem?_getD, List.getElem?_eq_getElem h1]; exact q1, q3⟩
  have HRP := Lib.hid hrp; have HSV := Lib.hid h; have HM := Lib.hid hm; have HK := Lib.hid hK; have HBD := Lib.hid hBd; have HD := Lib.hid hD; have HSZ := Lib.hid hsz; have HL := Lib.hid hl; have HND := Lib.hid hnd; have HCH := Lib.hid hch; have HFIT := Lib.hid hfit; have HVAL := Lib.hid hval; have HBIG := Lib.hid hbig; have HPL := Lib.hid hpl; have HM0 := Lib.hid hM0; have HF := Lib.hid h.far
  clear hrp h hm hK hBd hD hsz hl hnd hch hfit hval hbig hpl hM0 hlen hfa hta hfg htg hfv hfn htl
  go_enter Try.func27, Try.ntmps27
  go_wp2_with fail
  refine HRP.out.mono ?_
  rintro e w1 ⟨mb, rfl, hmb, him, hsv, hk⟩
  obtain ⟨W1, hW1⟩ : ∃ W, w1.alloc (.cells #[.int .i64 (p : Int)] 3) = W := ⟨_, rfl⟩
  have hb1 : Below w1.heap.size w1 W1 := by rw [← hW1]; exact (Below.refl _ _).alloc (Nat.le_refl _) _
  have hx1 : W1.heap[w1.heap.size]? = some (.cells #[.int .i64 (p : Int)] 3) := by rw [← hW1]; exact World.alloc_heap_new w1 _
  have hsv1 := hsv.below hb1
  have hhv := have12_any hsv1 [(p : Int)] (some ⟨w1.heap.size, 0, none⟩) 1 (by unfold maxLen; simp) (fun i hi => by
    obtain rfl : i = 0 := by simp at hi; omega
    exact ⟨_, _, rfl, cell_box hx1 rfl rfl⟩)
  rw [okN_nat HPL.out] at hhv
  have him1 := him.same (hb1.block _ him.lt)
  have hf := HF.out
  have hch := changed12_any hsv1 HM.out HK.out HD.out HSZ.out him1 ⟨by omega, by omega⟩ HL.out HND.out HM0.out HBIG.out
  rw [HCH.out] at hch
  have HHV := Lib.hid hhv; have HCG := Lib.hid hch; have HW1 := Lib.hid hW1; have HMBL := Lib.hid hmb
  have HIML := Lib.hid (Nat.lt_of_lt_of_le him.lt hb1.size)
  have HKP1 := Lib.hid ((hk.mono (Nat.le_refl _) (fun _ _ h => (.inr h : (fun k => k = s ∨ k = g) _))).trans (Kp.of_below (hb1.mono hk.size))); have HW1S := Lib.hid (show w.heap.size ≤ W1.heap.size from Nat.le_trans hk.size hb1.size)
  clear hmb him hsv hk hW1 hb1 hx1 hsv1 hhv him1 hf hch HRP
  go_wp2_with (go_at_call 73; rw [HW1.out]; refine HHV.out.mono ?_; rintro e wq ⟨rfl, hq⟩; rw [hq]; clear hq wq)
  refine HCG.out.mono ?_
  clear HCG HHV
  rintro e w2 ⟨v, H1, rfl, hown, hsv, hal, hmt, him, hk⟩
  dsimp only at hown him
  obtain ⟨va, vc, rfl, hna, hvb⟩ := nats_own hown
  obtain ⟨N, hN⟩ : ∃ n, l.length = n := ⟨_, rfl⟩
  rw [hN]
  have hrm := room12_any hsv
  obtain ⟨R, hR⟩ : ∃ R, L - C = R := ⟨_, rfl⟩
  have hfit := HFIT.out
  rw [hN, hR] at hfit
  rw [hR, show wrap64 R = R by have := HBD.out.cl; have := HBD.out.l; have := HBD.out.c0; unfold wrap64; omega] at hrm
  have hgd : decide (R < (N : Int)) = false := by simp; omega
  have hfar := hsv.far
  have hf := HF.out; have hw1s := HW1S.out
  have hkw : Kp w.heap.size (fun k => k = s ∨ k = g) w w2 := HKP1.out.trans (hk.mono HW1S.out (fun q hq h => h.imp id (fun h => h.elim id (fun h => by have := HMBL.out; omega))))
  have hNb : N ≤ 70000 := by have := HBD.out.cl; have := HBD.out.l; have := HBD.out.c0; omega
  have hl1 : H1.length = H.length := hal.len.symm
  have HRM := Lib.hid hrm; have SV2 := Lib.hid hsv; have HAL := Lib.hid hal; have HMT := Lib.hid hmt; have HIM := Lib.hid him; have HNA := Lib.hid hna; have HVB := Lib.hid hvb; have HN := Lib.hid hN; have HR := Lib.hid hR; have HKW := Lib.hid hkw; have HNB := Lib.hid hNb; have HBIGB := Lib.hid (show (N : Int) ≤ L - C by rw [hR]; exact hfit); have HL1 := Lib.hid hl1; have HMW := Lib.hid (show w1.heap.size ≤ W1.heap.size ∧ W1.heap.size ≤ w2.heap.size from ⟨by have := (show W1.heap.size = w1.heap.size + 1 by rw [← HW1.out, World.size_alloc]); omega, hk.size⟩)
  have HML := Lib.hid (show mb < W1.heap.size from HIML.out)
  clear hrm hsv hal hmt him hna hvb hN hR hkw hNb hl1 hown hfit hfar hf hw1s hk
  go_wp2_with fail
  refine HRM.out.mono ?_
  rintro e w3 ⟨rfl, hb⟩
  have SV3 := Lib.hid (SV2.out.below hb); have HKW3 := Lib.hid (HKW.out.trans (Kp.of_below (hb.mono HKW.out.size))); have HNA3 := Lib.hid (NatsAt.stay (w' := w3) HNA.out (fun b o e => hb.block b (HVB.out b o e).2)); have HIM3 := Lib.hid (HIM.out.same (hb.block _ HIM.out.lt)); have HZ3 := Lib.hid hb.size
  clear hb
  go_upto_region 8 with fail
  go_loopg [44] N (fun gk v wr => ∃ (j gj capj : Nat), j ≤ N ∧ v = .int .i64 (j : Int) ∧ SV B s gj capj L (C + (j : Int)) (K + 1) wr (cpAll H1 M (l.take j)) ∧ IMAt wr mb (fs.length + N) M ∧ Kp w.heap.size (fun k => k = s ∨ k = g) w wr ∧ (gj = g ∨ w2.heap.size ≤ gj) ∧ NatsAt wr l va ∧ w3.heap.size ≤ wr.heap.size ∧ gk = N - j)
  case atStart => exact ⟨0, g, cap, Nat.zero_le _, rfl, by rw [show C + ((0 : Nat) : Int) = C by omega, List.take_zero]; exact SV3.out, by have h9 := HIM3.out; rw [HN.out] at h9; exact h9, HKW3.out, .inl rfl, HNA3.out, Nat.le_refl _, rfl⟩
  case round =>
    obtain ⟨j, gj, capj, hjn, rfl, hsv, him, hkp, hgj, hna, hzr, rfl⟩ := hrel
    obtain ⟨V0, hV0⟩ : ∃ x : World, x = wr := ⟨_, rfl⟩
    subst hV0
    have SVJ := Lib.hid hsv; have HIMJ := Lib.hid him; have HKPJ := Lib.hid hkp; have HGJ := Lib.hid hgj; have HNAJ := Lib.hid hna; have HZR := Lib.hid hzr
    clear hsv him hkp hgj hna hzr
    by_cases hlt : j < N
    · have hjl : j < l.length := by rw [HN.out]; exact hlt
      obtain ⟨vb, rfl, hcv⟩ := HNAJ.out j hjl
      obtain ⟨r, hr⟩ : ∃ r, l[j] = r := ⟨_, rfl⟩
      obtain ⟨hrl, hrk⟩ := HVAL.out r (by rw [← hr]; exact List.getElem_mem hjl)
      rw [hr] at hcv
      obtain ⟨d, hd⟩ : ∃ d, H[r]? = some d := ⟨_, List.getElem?_eq_getElem hrl⟩
      obtain ⟨e, he, _, hek, hel, hea, heb⟩ := HAL.out.get hd
      have he2 := cpAll_get (M := M) (l := l.take j) he
      obtain ⟨c0, c1, c2, c3⟩ := SVJ.out.sbox
      obtain ⟨u, n0, n1, n2, n3, n4, n5⟩ := SVJ.out.six he2
      have hrl2 := (List.getElem?_eq_some_iff.1 he2).1
      obtain ⟨q0, q1⟩ := pt_int hrl2
      obtain ⟨i1, i2⟩ := pt_int hlt
      obtain ⟨kk, hkk⟩ : ∃ x, e.c.kind = x := ⟨_, rfl⟩
      obtain ⟨lv, hlv⟩ : ∃ x, e.c.level = x := ⟨_, rfl⟩
      obtain ⟨ca, hca⟩ : ∃ x, e.c.a = x := ⟨_, rfl⟩
      obtain ⟨cb, hcb⟩ : ∃ x, e.c.b = x := ⟨_, rfl⟩
      obtain ⟨mt, hmt⟩ : ∃ x, e.c.met = x := ⟨_, rfl⟩
      rw [hkk] at n0; rw [hlv] at n1; rw [hca] at n2; rw [hcb] at n3; rw [hmt] at n5
      have hkid : ∀ x ∈ kidL kk ca cb, ∃ (p : Nat) (d : SNd), x = (p : Int) ∧ H1[p]? = some d ∧ cpK H1 M x = (cpOf M d.up : Int) := fun x hx => by
        obtain ⟨p', d', h1, h2⟩ := hrk x (by unfold kidsOf; rw [hd]; show x ∈ kidL d.c.kind d.c.a d.c.b; rw [← hek, ← hea, ← heb, hkk, hca, hcb]; exact hx)
        obtain ⟨e', h3, _⟩ := HAL.out.get h2
        exact ⟨p', e', h1, h3, by unfold cpK; rw [h1, Int.toNat_natCast, rootOf_some h3]⟩
      have hcn : cpNode H1 M r = ⟨kk, lv, if 0 < ar kk then cpK H1 M ca else ca, if 1 < ar kk then cpK H1 M cb else cb, mt⟩ := by unfold cpNode; rw [he]; show Sg.Cr.mk _ _ _ _ _ = _; rw [hkk, hlv, hca, hcb, hmt]
      have HKID := Lib.hid hkid; have HCN := Lib.hid hcn; have HTJ := Lib.hid (show l.take (j + 1) = l.take j ++ [r] by rw [List.take_succ_eq_append_getElem hjl, hr])
      have hwj : wrap64 ((j : Int) + 1) = ((j + 1 : Nat) : Int) := by have := HNB.out; unfold wrap64; omega
      have HWJ := Lib.hid hwj
      clear hkid hcn hr hrl hrk hd he hek hel hea heb he2 hkk hlv hca hcb hmt hrl2 hjl hwj
      go_upto_region 11 with fail
      obtain ⟨W4, hW4⟩ : ∃ W, V0.alloc (.cells #[.int .i64 kk, .int .i64 lv, .int .i64 ca, .int .i64 cb, .int .i64 u, .int .i64 mt] 88) = W := ⟨_, rfl⟩
      rw [hW4]
      have hb4 : Below V0.heap.size V0 W4 := by rw [← hW4]; exact (Below.refl _ _).alloc (Nat.le_refl _) _
      have hx4 : W4.heap[V0.heap.size]? = some (.cells #[.int .i64 kk, .int .i64 lv, .int .i64 ca, .int .i64 cb, .int .i64 u, .int .i64 mt] 88) := by rw [← hW4]; exact World.alloc_heap_new _ _
      have hz4 : W4.heap.size = V0.heap.size + 1 := by rw [← hW4, World.size_alloc]
      have HB4 := Lib.hid hb4; have HX4 := Lib.hid hx4; have HZ4 := Lib.hid hz4; have HW4 := Lib.hid hW4
      have k0 : W4.cell? ⟨V0.heap.size, 0, none⟩ = some (.int .i64 kk) := cell_box hx4 rfl rfl
      clear hW4 hb4 hx4 hz4 c0 c1 c2 c3 n0 n1 n2 n3 n4 n5 q0 q1
      obtain ⟨m, hm⟩ : ∃ x, ar kk = x := ⟨_, rfl⟩
      have hm2 : m ≤ 2 := by rw [← hm]; exact ar_le _
      have HAR := Lib.hid hm; have HM2 := Lib.hid hm2
      go_wp2_with fail
      refine (arity12_any kk _).mono ?_
      clear k0
      rintro e wq ⟨rfl, hq⟩
      rw [hq, hm]; clear hq wq hm hm2
      go_wp2_with fail
      go_loopg [58] m (fun gk v wx => ∃ k : Nat, k ≤ m ∧ v = .int .i64 (k : Int) ∧ wx.heap[V0.heap.size]? = some (.cells #[.int .i64 kk, .int .i64 lv, .int .i64 (if 0 < k then cpK H1 M ca else ca), .int .i64 (if 1 < k then cpK H1 M cb else cb), .int .i64 u, .int .i64 mt] 88) ∧ SV B s gj capj L (C + (j : Int)) (K + 1) wx (cpAll H1 M (l.take j)) ∧ IMAt wx mb (fs.length + N) M ∧ Kp V0.heap.size (fun z => z = gj) V0 wx ∧ V0.heap.size < wx.heap.size ∧ gk = m - k)
      case atStart => exact ⟨0, Nat.zero_le _, rfl, by rw [if_neg (by omega), if_neg (by omega)]; exact HX4.out, SVJ.out.below HB4.out, HIMJ.out.same (HB4.out.block _ HIMJ.out.lt), .of_below HB4.out, by rw [HZ4.out]; omega, rfl⟩
      case round =>
        obtain ⟨k, hkm, rfl, hbx, hsv, him, hkp, hzx, rfl⟩ := hrel
        have HBX := Lib.hid hbx; have SVX := Lib.hid hsv; have HIMX := Lib.hid him; have HKPX := Lib.hid hkp; have HZX := Lib.hid hzx
        clear hbx hsv him hkp hzx
        by_cases hltk : k < m
        · have hk2 : k = 0 ∨ k = 1 := by have := HM2.out; omega
          rcases hk2 with rfl | rfl
          · skip
            have hbx := HBX.out
            rw [if_neg (by omega), if_neg (by omega)] at hbx
            obtain ⟨q, dq, hq, hdq, hcp⟩ := HKID.out ca (by unfold kidL; rw [HAR.out]; have := HM2.out; rcases (show m = 1 ∨ m = 2 by omega) with h | h <;> rw [h] <;> simp)
            have hdq2 := cpAll_get (M := M) (l := l.take j) hdq
            have hup : I64 (dq.up : Int) := by
              obtain ⟨G, hO, _⟩ := SVX.out.row
              obtain ⟨e9, h9, _⟩ := hO.root hdq2
              have h8 := (List.getElem?_eq_some_iff.1 h9).1
              rw [cpAll_len, HL1.out, List.length_take] at h8
              have := HBIG.out; have := HNB.out; have := HN.out
              unfold I64; omega
            have hmg : mb ≠ gj := by have := HGJ.out; have := HF.out; have := HML.out; have := HMW.out; have := HMBL.out; omega
            have hco := copyOf12_any SVX.out hdq2 HIMX.out hmg hup
            rw [← hq] at hco
            obtain ⟨cv, hcv⟩ : ∃ x, cpOf M dq.up = x := ⟨_, rfl⟩
            rw [hcv] at hco hcp
            have c2 : wr.cell? ⟨V0.heap.size, 2, none⟩ = some (.int .i64 ca) := cell_box hbx rfl rfl
            have HCO := Lib.hid hco; have HBca := Lib.hid hbx; have HQP := Lib.hid (show True ∧ cpK H1 M ca = (cv : Int) ∧ True from ⟨trivial, hcp, trivial⟩); have HMG := Lib.hid hmg
            clear hco hbx hq hdq hdq2 hup hcp hcv hmg
            have hbnd : ((0 : Nat) : Int) < 2 := by decide
            go_wp2_with fail
            refine HCO.out.mono ?_
            clear c2 HCO
            rintro e wy ⟨rfl, hsv, hk, him⟩
            have hgl := SVJ.out.far.2.1
            have hby := hk.heap HBca.out HZX.out (by omega)
            have c2 : wy.cell? ⟨V0.heap.size, 2, none⟩ = some (.int .i64 ca) := cell_box hby rfl rfl
            have f2 : wy.frozen? ⟨V0.heap.size, 2, none⟩ = false := IsC.frozen ⟨_, _, hby⟩
            have HBY := Lib.hid hby; have SVY := Lib.hid hsv; have HIMY := Lib.hid him; have HKPY := Lib.hid (HKPX.out.trans (hk.mono HKPX.out.size (fun _ _ h => h))); have HZY := Lib.hid (Nat.lt_of_lt_of_le HZX.out hk.size)
            clear hgl hby hsv hk him
            go_wp2_with fail
            go_roundg (m - (0 + 1))
            case measure => omega
            case rel =>
              have hf := SVJ.out.far; have hml := HML.out; have hmw := HMW.out; have hz3 := HZ3.out; have hzr := HZR.out
              refine ⟨0 + 1, hltk, rfl, ?_, SVY.out.same (Below.heap_setCell _ _ _ s (by dsimp only; omega)) (Below.heap_setCell _ _ _ gj (by dsimp only; omega)), HIMY.out.same (Below.heap_setCell _ _ _ mb (by dsimp only; omega)), HKPY.out.setCell (.inl (Nat.le_refl _)) _, Nat.lt_of_lt_of_le HZY.out (Turns.setCell (M := fun _ => True) wy ⟨V0.heap.size, 2, none⟩ _ trivial).size, rfl⟩
              rw [if_pos (by omega), if_neg (by omega), HQP.out.2.1]
              exact box_set HBY.out
          · skip
            have hbx := HBX.out
            rw [if_pos (by omega), if_neg (by omega)] at hbx
            obtain ⟨q, dq, hq, hdq, hcp⟩ := HKID.out cb (by unfold kidL; rw [HAR.out, show m = 2 by have := HM2.out; omega]; simp)
            have hdq2 := cpAll_get (M := M) (l := l.take j) hdq
            have hup : I64 (dq.up : Int) := by
              obtain ⟨G, hO, _⟩ := SVX.out.row
              obtain ⟨e9, h9, _⟩ := hO.root hdq2
              have h8 := (List.getElem?_eq_some_iff.1 h9).1
              rw [cpAll_len, HL1.out, List.length_take] at h8
              have := HBIG.out; have := HNB.out; have := HN.out
              unfold I64; omega
            have hmg : mb ≠ gj := by have := HGJ.out; have := HF.out; have := HML.out; have := HMW.out; have := HMBL.out; omega
            have hco := copyOf12_any SVX.out hdq2 HIMX.out hmg hup
            rw [← hq] at hco
            obtain ⟨cv, hcv⟩ : ∃ x, cpOf M dq.up = x := ⟨_, rfl⟩
            rw [hcv] at hco hcp
            have c2 : wr.cell? ⟨V0.heap.size, 3, none⟩ = some (.int .i64 cb) := cell_box hbx rfl rfl
            have HCO := Lib.hid hco; have HBcb := Lib.hid hbx; have HQP := Lib.hid (show True ∧ cpK H1 M cb = (cv : Int) ∧ True from ⟨trivial, hcp, trivial⟩); have HMG := Lib.hid hmg
            clear hco hbx hq hdq hdq2 hup hcp hcv hmg
            have hbnd : ((1 : Nat) : Int) < 2 := by decide
            go_wp2_with fail
            refine HCO.out.mono ?_
            clear c2 HCO
            rintro e wy ⟨rfl, hsv, hk, him⟩
            have hgl := SVJ.out.far.2.1
            have hby := hk.heap HBcb.out HZX.out (by omega)
            have c2 : wy.cell? ⟨V0.heap.size, 3, none⟩ = some (.int .i64 cb) := cell_box hby rfl rfl
            have f2 : wy.frozen? ⟨V0.heap.size, 3, none⟩ = false := IsC.frozen ⟨_, _, hby⟩
            have HBY := Lib.hid hby; have SVY := Lib.hid hsv; have HIMY := Lib.hid him; have HKPY := Lib.hid (HKPX.out.trans (hk.mono HKPX.out.size (fun _ _ h => h))); have HZY := Lib.hid (Nat.lt_of_lt_of_le HZX.out hk.size)
            clear hgl hby hsv hk him
            go_wp2_with fail
            go_roundg (m - (1 + 1))
            case measure => omega
            case rel =>
              have hf := SVJ.out.far; have hml := HML.out; have hmw := HMW.out; have hz3 := HZ3.out; have hzr := HZR.out
              refine ⟨1 + 1, hltk, rfl, ?_, SVY.out.same (Below.heap_setCell _ _ _ s (by dsimp only; omega)) (Below.heap_setCell _ _ _ gj (by dsimp only; omega)), HIMY.out.same (Below.heap_setCell _ _ _ mb (by dsimp only; omega)), HKPY.out.setCell (.inl (Nat.le_refl _)) _, Nat.lt_of_lt_of_le HZY.out (Turns.setCell (M := fun _ => True) wy ⟨V0.heap.size, 3, none⟩ _ trivial).size, rfl⟩
              rw [if_pos (by omega), if_pos (by omega), HQP.out.2.1]
              exact box_set HBY.out
        · obtain rfl : k = m := by omega
          have hbx := HBX.out
          obtain ⟨A, hA⟩ : ∃ x, (if 0 < k then cpK H1 M ca else ca) = x := ⟨_, rfl⟩
          obtain ⟨D, hDD⟩ : ∃ x, (if 1 < k then cpK H1 M cb else cb) = x := ⟨_, rfl⟩
          rw [hA, hDD] at hbx
          have d0 : wr.cell? ⟨V0.heap.size, 0, none⟩ = some (.int .i64 kk) := cell_box hbx rfl rfl
          have d1 : wr.cell? ⟨V0.heap.size, 1, none⟩ = some (.int .i64 lv) := cell_box hbx rfl rfl
          have d2 : wr.cell? ⟨V0.heap.size, 2, none⟩ = some (.int .i64 A) := cell_box hbx rfl rfl
          have d3 : wr.cell? ⟨V0.heap.size, 3, none⟩ = some (.int .i64 D) := cell_box hbx rfl rfl
          have d4 : wr.cell? ⟨V0.heap.size, 4, none⟩ = some (.int .i64 u) := cell_box hbx rfl rfl
          have d5 : wr.cell? ⟨V0.heap.size, 5, none⟩ = some (.int .i64 mt) := cell_box hbx rfl rfl
          have hln : (cpAll H1 M (l.take j)).length = H.length + j := by rw [cpAll_len, HL1.out, List.length_take, HN.out]; omega
          have hadd := add12_any SVX.out ⟨kk, lv, A, D, mt⟩ u (by rw [hln]; have := HBD.out.n; have := HBD.out.cl; have := HBD.out.l; have := HNB.out; have := HBIGB.out; omega) (by have := HBD.out.c0; have := HBD.out.cl; have := HBD.out.l; have := HBIGB.out; omega)
          have hcn : (⟨kk, lv, A, D, mt⟩ : Sg.Cr) = cpNode H1 M r := by rw [HCN.out, HAR.out, ← hA, ← hDD]
          have HADD := Lib.hid hadd; have HCN2 := Lib.hid hcn
          clear hbx hA hDD hln hadd hcn
          go_wp2_with fail
          refine HADD.out.mono ?_
          clear d0 d1 d2 d3 d4 d5 HADD
          rintro e w9 ⟨rfl, g9, cap9, hsv, hk, hg9⟩
          rw [HCN2.out, ← cpAll_snoc, ← HTJ.out, show C + (j : Int) + 1 = C + ((j + 1 : Nat) : Int) by omega] at hsv
          have HSV9 := Lib.hid hsv; have HK9 := Lib.hid hk; have HG9 := Lib.hid hg9
          have hwj := HWJ.out
          clear hsv hk hg9
          go_wp2_with fail
          go_roundg (N - (j + 1))
          case measure => omega
          case rel =>
            have hf := HF.out; have hgj := HGJ.out; have hml := HML.out; have hmw := HMW.out; have hz3 := HZ3.out; have hzr := HZR.out; have hmb := HMBL.out; have hw1s := HW1S.out; have hfv := SVJ.out.far; have hzx := HZX.out
            have hvb := HVB.out vb 0 rfl
            have hkp : Kp V0.heap.size (fun z => z = s ∨ z = gj) V0 w9 := (HKPX.out.mono (Nat.le_refl _) (fun _ _ h => .inr h)).trans (HK9.out.mono (by omega) (fun _ _ h => h))
            refine ⟨j + 1, g9, cap9, hlt, congrArg (Value.int .i64) HWJ.out, HSV9.out, HIMJ.out.same (hkp.block mb (by omega) (by omega)), HKPJ.out.trans (hkp.mono HKPJ.out.size (fun z hz h => by rcases h with h | h; exact .inl h; right; omega)), ?_, NatsAt.stay HNAJ.out (fun b o hb => by injection hb with hb; injection hb with hb; exact hkp.block b (by omega) (by omega)), Nat.le_trans hzr hkp.size, rfl⟩
            rcases HG9.out with h | h
            · rw [h]; exact hgj
            · right; omega
    · obtain rfl : j = N := by omega
      obtain ⟨dp, hdp⟩ : ∃ d, H[p]? = some d := ⟨_, List.getElem?_eq_getElem HPL.out⟩
      obtain ⟨ep, hep, heu, _⟩ := HAL.out.get hdp
      have hep2 := cpAll_get (M := M) (l := l.take j) hep
      have hup : I64 (ep.up : Int) := by
        obtain ⟨G, hO, _⟩ := SVJ.out.row
        obtain ⟨e9, h9, _⟩ := hO.root hep2
        have h8 := (List.getElem?_eq_some_iff.1 h9).1
        rw [cpAll_len, HL1.out, List.length_take] at h8
        have := HBIG.out; have := HNB.out; have := HN.out
        unfold I64; omega
      have hmg : mb ≠ gj := by have := HGJ.out; have := HF.out; have := HML.out; have := HMW.out; have := HMBL.out; omega
      have hco := copyOf12_any SVJ.out hep2 HIMJ.out hmg hup
      rw [heu, ← rootOf_some hdp] at hco
      have HCO := Lib.hid hco
      clear hco hdp hep heu hep2 hup hmg
      go_wp2_with fail
      refine HCO.out.mono ?_
      rintro e w9 ⟨rfl, hsv, hk, him⟩
      have HSV9 := Lib.hid hsv; have HK9 := Lib.hid hk
      clear hsv hk him
      go_wp2_with fail
      refine bodyPost_ret (v := .tuple #[.int .i64 (cpOf M (rootOf H p) : Int), .int .i64 0]) (by simp [results, Try.f27, go_sem]) rfl ?_
      have hsv := HSV9.out
      rw [List.take_of_length_le (by rw [HN.out]; exact Nat.le_refl _)] at hsv
      have hgj := HGJ.out; have hmw := HMW.out; have hw1s := HW1S.out
      exact ⟨H1, gj, capj, HAL.out, HMT.out, rfl, by rw [HN.out]; exact hsv, HKPJ.out.trans (HK9.out.mono HKPJ.out.size (fun z hz h => by right; omega)), by rcases hgj with h | h; exact .inl h; right; omega⟩
end
end Go.Proofs.Yteolbbgnkbcfmaa
namespace Go.Proofs.Yteolbbgnkbcfmaa
open Go Go.RowKit
open Tp (T)
open Sg (Of Rt Den Dens Alk Mkd trav travs rootOf kidsOf)
/-- Kids come first. -/
def Ord (H : List SNd) (Y : List Nat) : Prop := ∀ A r Z, Y = A ++ r :: Z → ∀ x ∈ kidsOf H r, rootOf H x.toNat ∈ A
theorem Ord.nil (H : List SNd) : Ord H [] := fun A r Z h => by simp at h
theorem Ord.snoc {H : List SNd} {Y : List Nat} (h : Ord H Y) {r : Nat} (hk : ∀ x ∈ kidsOf H r, rootOf H x.toNat ∈ Y) : Ord H (Y ++ [r]) := fun A q Z e x hx => by
  rcases List.eq_nil_or_concat Z with rfl | ⟨Z', z, rfl⟩
  · have e2 : Y = A ∧ [r] = [q] := List.append_inj' (by simpa using e) rfl
    obtain ⟨rfl, e3⟩ := e2
    injection e3 with e3
    subst e3
    exact hk x hx
  · rw [List.concat_eq_append] at e
    have e2 : Y ++ [r] = (A ++ q :: Z') ++ [z] := by rw [e]; simp
    obtain ⟨e3, _⟩ := List.append_inj' e2 rfl
    exact h A q Z' e3 x hx
theorem Ord.pre {H : List SNd} {Y : List Nat} {r : Nat} (h : Ord H (Y ++ [r])) : Ord H Y := fun A q Z e x hx => h A q (Z ++ [r]) (by rw [e]; simp) x hx
mutual
theorem trav_ord {H : List SNd} {M : IMap} : ∀ {t : T} {p : Nat} {Y : List Nat}, Im H M t p → Ord H Y → Ord H (trav H (ren M t) p Y)
  | .mk k n l, p, Y, h, hY => by
    have hr := h.root
    by_cases hy : rootOf H p ∈ Y
    · rw [Sg.trav_in hy]; exact hY
    · rw [Sg.trav_out hy, hr, ren_kids]
      exact (travs_ord h.kids hY).snoc (travs_mem _ _ _ (by rw [rens_len]; exact h.kids.len))
theorem travs_ord {H : List SNd} {M : IMap} : ∀ {l : List T} {xs : List Int} {Y : List Nat}, Ims H M l xs → Ord H Y → Ord H (travs H (rens M l) xs Y)
  | [], xs, Y, h, hY => by simp only [rens, travs]; exact hY
  | t :: ts, xs, Y, h, hY => by
    obtain ⟨q, rest, rfl, h2, h3⟩ := h
    simp only [rens, travs, Int.toNat_natCast]
    exact travs_ord h3 (trav_ord h2 hY)
end
/-- What is known of a root that was gone by. -/
def Known (H : List SNd) (M0 : IMap) (S : IMap × List Nat) (r : Nat) : Prop :=
  (S.1 (r : Int) = M0 (r : Int) ∧ ∀ x ∈ kidsOf H r, S.1 ((rootOf H x.toNat : Nat) : Int) = none) ∨ (M0 (r : Int) = none ∧ kidsOf H r ≠ [] ∧ ∃ j, S.2[j]? = some r ∧ S.1 (r : Int) = some (H.length + j))
theorem chg_known {H : List SNd} {M0 : IMap} (hM0 : ∀ (r : Nat) e, M0 (r : Int) = some e → kidsOf H r = []) : ∀ (n : Nat) (Y : List Nat), Y.length = n → Ord H Y → Y.Nodup → (∀ r ∈ Y, Known H M0 (chg H H.length M0 Y) r) ∧ ∀ i, (∀ r ∈ Y, i ≠ ((r : Nat) : Int)) → (chg H H.length M0 Y).1 i = M0 i
  | 0, Y, hn, _, _ => by
    obtain rfl := List.length_eq_zero_iff.1 hn
    exact ⟨fun r h => (by cases h), fun i _ => rfl⟩
  | n + 1, Y, hn, ho, hd => by
    rcases List.eq_nil_or_concat Y with rfl | ⟨A, r, rfl⟩
    · cases hn
    · rw [List.concat_eq_append] at hn ho hd ⊢
      obtain ⟨h1, h2⟩ := chg_known hM0 n A (by simpa using hn) ho.pre (List.nodup_append.1 hd).1
      have hrA : ¬ r ∈ A := fun h => (List.nodup_append.1 hd).2.2 r h r (by simp) rfl
      have hkA : ∀ x ∈ kidsOf H r, rootOf H x.toNat ∈ A := ho A r [] rfl
      rw [chg_snoc]
      obtain ⟨S, hS⟩ : ∃ S, chg H H.length M0 A = S := ⟨_, rfl⟩
      rw [hS] at h1 h2 ⊢
      unfold chStep
      by_cases ha : anyIn H S.1 (kidsOf H r) = true
      · rw [if_pos ha]
        have hother : ∀ q : Nat, q ∈ A → imPut S.1 (r : Int) (H.length + S.2.length) (q : Int) = S.1 (q : Int) := fun q hq => by
          unfold imPut; rw [if_neg]; intro e; exact hrA (by have : q = r := by omega
                                                            rw [← this]; exact hq)
        have hnone : M0 (r : Int) = none := by
          cases hc : M0 (r : Int) with
          | none => rfl
          | some e => rw [hM0 r e hc] at ha; cases ha
        refine ⟨fun q hq => ?_, fun i hi => ?_⟩
        · rcases List.mem_append.1 hq with hq | hq
          · rcases h1 q hq with ⟨h3, h4⟩ | ⟨h3, h6, j, h4, h5⟩
            · refine .inl ⟨by rw [← h3]; exact hother q hq, fun x hx => ?_⟩
              have hxA : rootOf H x.toNat ∈ A := by
                obtain ⟨A1, A2, e⟩ := List.append_of_mem hq
                have := ho.pre A1 q A2 e x hx
                rw [e]; exact List.mem_append_left _ this
              show imPut S.1 _ _ _ = none
              rw [hother _ hxA]; exact h4 x hx
            · exact .inr ⟨h3, h6, j, by show (S.2 ++ [r])[j]? = some q; rw [List.getElem?_append_left (List.getElem?_eq_some_iff.1 h4).1]; exact h4, by rw [← h5]; exact hother q hq⟩
          · rw [List.mem_singleton.1 hq]
            exact .inr ⟨hnone, fun e => (by rw [e] at ha; cases ha), S.2.length, by simp, by show imPut S.1 _ _ _ = _; unfold imPut; rw [if_pos rfl]⟩
        · have hir : i ≠ (r : Int) := hi r (by simp)
          show imPut S.1 _ _ _ = _
          unfold imPut
          rw [if_neg hir]
          exact h2 i (fun q hq => hi q (List.mem_append_left _ hq))
      · rw [if_neg ha]
        refine ⟨fun q hq => ?_, fun i hi => h2 i (fun q hq => hi q (List.mem_append_left _ hq))⟩
        rcases List.mem_append.1 hq with hq | hq
        · exact h1 q hq
        · rw [List.mem_singleton.1 hq]
          refine .inl ⟨h2 _ (fun q hq e => hrA (by have : r = q := by omega
                                                   rw [this]; exact hq)), fun x hx => ?_⟩
          cases hc : S.1 ((rootOf H x.toNat : Nat) : Int) with
          | none => rfl
          | some e =>
            exfalso
            apply ha
            unfold anyIn
            rw [List.any_eq_true]
            exact ⟨x, hx, by rw [hc]; rfl⟩
mutual
/-- Leaves in the place of variables. -/
def putR (M0 : IMap) : T → T
  | .mk k n l => if k = 6 then (match M0 n with | some e => .mk ((e : Int) + 1) 0 [] | none => .mk k n (putRs M0 l)) else .mk k n (putRs M0 l)
def putRs (M0 : IMap) : List T → List T
  | [] => []
  | t :: r => putR M0 t :: putRs M0 r
end
theorem cpAll_at {H : List SNd} {M : IMap} : ∀ {l : List Nat} {j q : Nat}, l[j]? = some q → (cpAll H M l)[H.length + j]? = some ⟨cpNode H M q, H.length + j⟩ := fun {l} {j} {q} h => by
  have hl := (List.getElem?_eq_some_iff.1 h).1
  have hq := (List.getElem?_eq_some_iff.1 h).2
  have key : ∀ (B : List Nat) (A : List SNd) (i : Nat) (d : SNd), A[i]? = some d → (B.foldl (fun A r => A ++ [(⟨cpNode H M r, A.length⟩ : SNd)]) A)[i]? = some d := fun B => by
    induction B with
    | nil => intro A i d h; exact h
    | cons r B ih => intro A i d h; exact ih _ i d (by rw [List.getElem?_append_left (List.getElem?_eq_some_iff.1 h).1]; exact h)
  have e : l = l.take (j + 1) ++ l.drop (j + 1) := (List.take_append_drop _ _).symm
  rw [e]
  unfold cpAll
  rw [List.foldl_append]
  refine key _ _ _ _ ?_
  show (cpAll H M (l.take (j + 1)))[H.length + j]? = _
  rw [List.take_succ_eq_append_getElem hl, hq, cpAll_snoc]
  have hln : (cpAll H M (l.take j)).length = H.length + j := by rw [cpAll_len, List.length_take]; omega
  rw [List.getElem?_append_right (by rw [hln]; exact Nat.le_refl _), hln, Nat.sub_self]
  rfl
theorem ims_own {H : List SNd} {M : IMap} : ∀ {l : List T} {xs : List Int}, Ims H M l xs → ∀ x ∈ xs, ∃ q : Nat, x = (q : Int) ∧ rootOf H q = q
  | [], xs, h, x, hx => by rw [show xs = [] from h] at hx; cases hx
  | t :: ts, xs, h, x, hx => by
    obtain ⟨q, rest, rfl, h2, h3⟩ := h
    rcases List.mem_cons.1 hx with rfl | hx
    · exact ⟨q, rfl, h2.root⟩
    · exact ims_own h3 x hx
theorem kidL_cp (H : List SNd) (M : IMap) (k a b : Int) : kidL k (if 0 < ar k then cpK H M a else a) (if 1 < ar k then cpK H M b else b) = (kidL k a b).map (cpK H M) := by
  have h := ar_le k
  unfold kidL
  obtain ⟨m, hm⟩ : ∃ m, ar k = m := ⟨_, rfl⟩
  rw [hm] at h ⊢
  rcases (show m = 0 ∨ m = 1 ∨ m = 2 by omega) with h | h | h <;> rw [h] <;> simp
section
variable {H H1 : List SNd} {M0 M1 M : IMap} {l : List Nat} {Z : List Nat}
mutual
/-- A copy stands for the type with leaves in the place of variables. -/
theorem copy_den (hal : Alk H H1) (hclo : Clo H Z) (hkn : ∀ r ∈ Z, Known H M0 (M, l) r) (hvar : ∀ (r : Nat) e, M0 (r : Int) = some e → ∃ d : SNd, H[r]? = some d ∧ d.c.kind = 6) (hleaf : ∀ (r : Nat) e, M0 (r : Int) = some e → e < 5) (hlv : LvOk H1) :
    ∀ {u : T} {q : Nat}, Im H M1 u q → q ∈ Z → Den (cpAll H1 M l) (putR M0 (ren M1 u)) (cpOf M q)
  | .mk k n ls, q, h, hq => by
    have h0 := h
    obtain ⟨d, hd, hdu, hdk, hd6, hki⟩ := h0
    obtain ⟨e, he, heu, hek, _, hea, heb⟩ := hal.get hd
    have he2 := cpAll_get (M := M) (l := l) he
    rw [hdu] at heu
    rw [hdk] at hek
    have hkids : kidsOf H q = kidL k d.c.a d.c.b := by unfold kidsOf; rw [hd]; show kidL d.c.kind d.c.a d.c.b = _; rw [hdk]
    rw [hdk] at hki
    by_cases h6 : k = 6
    · subst h6
      have hls : ls = [] := by
        have h9 := hki.len
        rw [kidL_len] at h9
        exact List.length_eq_zero_iff.1 h9
      subst hls
      have hnoK : kidsOf H q = [] := by rw [hkids]; exact List.length_eq_zero_iff.1 (by rw [kidL_len]; rfl)
      have hMq : M (q : Int) = M0 (q : Int) := by
        rcases hkn q hq with ⟨h1, _⟩ | ⟨_, h1, _⟩
        · exact h1
        · exact absurd hnoK h1
      rw [ren, if_pos rfl, hd6 rfl]
      show Den _ (putR M0 (.mk 6 (((some q).getD 0 : Nat) : Int) (rens M1 []))) _
      rw [Option.getD_some, rens, putR, if_pos rfl]
      unfold cpOf
      rw [hMq]
      cases hc : M0 (q : Int) with
      | none =>
        refine ⟨e, e, he2, by rw [heu]; exact he2, rfl, hek, by rw [if_pos rfl, heu], ?_⟩
        rw [putRs, hek]
        exact List.length_eq_zero_iff.1 (by rw [kidL_len]; rfl)
      | some x =>
        obtain ⟨dl, l1, l2, l3⟩ := hlv x (hleaf q x hc)
        have l4 := cpAll_get (M := M) (l := l) l1
        have hx5 := hleaf q x hc
        refine ⟨dl, dl, l4, by rw [l2]; exact l4, rfl, l3, by rw [if_neg (by omega)], ?_⟩
        rw [l3]
        refine List.length_eq_zero_iff.1 ?_
        rw [kidL_len]
        unfold ar
        rw [if_neg (by omega), if_neg (by omega)]
    · rw [ren, if_neg h6, putR, if_neg h6]
      have hkz : ∀ x ∈ kidL k d.c.a d.c.b, rootOf H x.toNat ∈ Z := fun x hx => hclo q hq x (by rw [hkids]; exact hx)
      have hden := copy_dens hal hclo hkn hvar hleaf hlv hki hkz
      rcases hkn q hq with ⟨h1, h2⟩ | ⟨h1, _, j, h3, h4⟩
      · have hM0 : M0 (q : Int) = none := by
          cases hc : M0 (q : Int) with
          | none => rfl
          | some x =>
            obtain ⟨d', h7, h8⟩ := hvar q x hc
            rw [hd] at h7; injection h7 with h7
            exact absurd (by rw [← hdk, h7]; exact h8) h6
        have hMq : M (q : Int) = none := h1.trans hM0
        have hsame : (kidL k d.c.a d.c.b).map (cpK H1 M) = kidL k d.c.a d.c.b := by
          conv => rhs; rw [← List.map_id (kidL k d.c.a d.c.b)]
          refine List.map_congr_left (fun x hx => ?_)
          obtain ⟨q', hx', hr'⟩ := ims_own hki x hx
          have h9 := h2 x (by rw [hkids]; exact hx)
          subst hx'
          rw [Int.toNat_natCast, hr'] at h9
          unfold cpK cpOf
          rw [Int.toNat_natCast, ← hal.root, hr', show M ((q' : Nat) : Int) = none from h9]
          rfl
        rw [hsame] at hden
        unfold cpOf
        rw [hMq]
        refine ⟨e, e, he2, by rw [heu]; exact he2, rfl, hek, by rw [if_neg h6], ?_⟩
        rw [hek, hea, heb]; exact hden
      · have h4' : M (q : Int) = some (H.length + j) := h4
        have hat := cpAll_at (H := H1) (M := M) h3
        have hcn : cpNode H1 M q = ⟨k, e.c.level, if 0 < ar k then cpK H1 M d.c.a else d.c.a, if 1 < ar k then cpK H1 M d.c.b else d.c.b, e.c.met⟩ := by unfold cpNode; rw [he]; show Sg.Cr.mk _ _ _ _ _ = _; rw [hek, hea, heb]
        rw [hcn, ← hal.len] at hat
        unfold cpOf
        rw [h4']
        refine ⟨_, _, hat, hat, rfl, rfl, by rw [if_neg h6], ?_⟩
        show Dens _ _ (kidL k (if 0 < ar k then cpK H1 M d.c.a else d.c.a) (if 1 < ar k then cpK H1 M d.c.b else d.c.b))
        rw [kidL_cp]; exact hden
theorem copy_dens (hal : Alk H H1) (hclo : Clo H Z) (hkn : ∀ r ∈ Z, Known H M0 (M, l) r) (hvar : ∀ (r : Nat) e, M0 (r : Int) = some e → ∃ d : SNd, H[r]? = some d ∧ d.c.kind = 6) (hleaf : ∀ (r : Nat) e, M0 (r : Int) = some e → e < 5) (hlv : LvOk H1) :
    ∀ {ls : List T} {xs : List Int}, Ims H M1 ls xs → (∀ x ∈ xs, rootOf H x.toNat ∈ Z) → Dens (cpAll H1 M l) (putRs M0 (rens M1 ls)) (xs.map (cpK H1 M))
  | [], xs, h, _ => by rw [show xs = [] from h]; rfl
  | t :: ts, xs, h, hz => by
    obtain ⟨q, rest, rfl, h2, h3⟩ := h
    have hq : q ∈ Z := by have h9 := hz (q : Int) (by simp); rwa [Int.toNat_natCast, h2.root] at h9
    have h1 := copy_den hal hclo hkn hvar hleaf hlv h2 hq
    refine ⟨cpOf M q, rest.map (cpK H1 M), ?_, h1, copy_dens hal hclo hkn hvar hleaf hlv h3 (fun x hx => hz x (List.mem_cons_of_mem _ hx))⟩
    rw [List.map_cons]
    congr 1
    unfold cpK
    rw [Int.toNat_natCast, ← hal.root, h2.root]
end
end
mutual
/-- Each node of a type with kids is made anew once at most. -/
theorem chg_inner {H : List SNd} {M1 : IMap} (base : Nat) : ∀ {t : T} {p : Nat} {Y : List Nat} {M0 : IMap}, Im H M1 t p → (chg H base M0 (trav H (ren M1 t) p Y)).2.length ≤ (chg H base M0 Y).2.length + inner t
  | .mk k n ls, p, Y, M0, h => by
    have hr := h.root
    by_cases hy : rootOf H p ∈ Y
    · rw [Sg.trav_in hy]; omega
    · rw [Sg.trav_out hy, hr, ren_kids, chg_snoc]
      have h1 := chg_inners base (M0 := M0) (Y := Y) h.kids
      have h2 : (chStep H base (chg H base M0 (travs H (rens M1 ls) (kidsOf H p) Y)) p).2.length ≤ (chg H base M0 (travs H (rens M1 ls) (kidsOf H p) Y)).2.length + min ls.length 1 := by
        have hkl := h.kids.len
        unfold chStep
        split
        · rename_i ha
          cases ls with
          | nil =>
            have : kidsOf H p = [] := List.length_eq_zero_iff.1 hkl.symm
            rw [this] at ha; cases ha
          | cons c cs => simp
        · omega
      rw [inner]
      exact Nat.le_trans h2 (by have h3 : (chg H base M0 (travs H (rens M1 ls) (kidsOf H p) Y)).2.length ≤ (chg H base M0 Y).2.length + inners ls := h1
                                omega)
theorem chg_inners {H : List SNd} {M1 : IMap} (base : Nat) : ∀ {ls : List T} {xs : List Int} {Y : List Nat} {M0 : IMap}, Ims H M1 ls xs → (chg H base M0 (travs H (rens M1 ls) xs Y)).2.length ≤ (chg H base M0 Y).2.length + inners ls
  | [], xs, Y, M0, h => by simp only [rens, travs, inners]; omega
  | t :: ts, xs, Y, M0, h => by
    obtain ⟨q, rest, rfl, h2, h3⟩ := h
    simp only [rens, travs, Int.toNat_natCast, inners]
    have h4 := chg_inner base (M0 := M0) (Y := Y) h2
    have h5 := chg_inners base (M0 := M0) (Y := trav H (ren M1 t) q Y) h3
    omega
end
/-- Where none of the replaced is within, nothing is made anew. -/
theorem chg_none {H : List SNd} {M0 : IMap} {base : Nat} : ∀ {Y : List Nat}, (∀ r ∈ Y, ∀ x ∈ kidsOf H r, M0 ((rootOf H x.toNat : Nat) : Int) = none) → chg H base M0 Y = (M0, []) := fun {Y} h => by
  have key : ∀ Y : List Nat, (∀ r ∈ Y, ∀ x ∈ kidsOf H r, M0 ((rootOf H x.toNat : Nat) : Int) = none) → Y.foldl (chStep H base) (M0, []) = (M0, []) := fun Y => by
    induction Y with
    | nil => intro _; rfl
    | cons r Y ih =>
      intro h
      have e : chStep H base (M0, []) r = (M0, []) := by
        unfold chStep
        rw [if_neg]
        intro ha
        unfold anyIn at ha
        rw [List.any_eq_true] at ha
        obtain ⟨x, hx, h9⟩ := ha
        have h9' : (M0 ((rootOf H x.toNat : Nat) : Int)).isSome = true := h9
        rw [h r (by simp) x hx] at h9'; cases h9'
      rw [List.foldl_cons, e]
      exact ih (fun q hq => h q (List.mem_cons_of_mem _ hq))
  exact key Y h
end Go.Proofs.Yteolbbgnkbcfmaa
