/- store.Link. -/
import Derived.Test.YtaaapdfdedknfaaStO
namespace Go.Proofs.Ytaaapdfdedknfaa
open Go Go.RowKit
open Tp (T)
open Sg (Of Rt Den Dens Alk Mkd trav travs rootOf kidsOf)
theorem sv_link {B s g cap : Nat} {L C K : Int} {w : World} {H : List SNd} (h : SV B s g cap L C K w H) {v n : Nat} {d e : SNd} (hd : H[v]? = some d) (hdu : d.up = v) (he : H[n]? = some e) (heu : e.up = n) (hne : n ≠ v) : SV B s g cap L C K (w.setCell ⟨g, v * 6 + 4, none⟩ (.int .i64 (n : Int))) (Sg.link H v n) := by
  obtain ⟨G, hO, hown⟩ := h.row
  obtain ⟨d', hd', _⟩ := hO.get hd
  obtain ⟨e', he', _⟩ := hO.get he
  refine ⟨⟨G.set v { d' with up := n }, hO.link hd' ((hO.self hd' hd).2 hdu) he' ((hO.self he' he).2 heu) hne, nd_set hown hd' n⟩, ?_, h.lo⟩
  rw [Sg.link_len, Below.heap_setCell _ _ _ s h.far.2.2.2]
  exact h.box
theorem rootOf_some {H : List SNd} {p : Nat} {d : SNd} (h : H[p]? = some d) : rootOf H p = d.up := by unfold rootOf; rw [h]
theorem trav_root {H : List SNd} {t : T} {p q : Nat} (h : rootOf H p = rootOf H q) (Y : List Nat) : trav H t p Y = trav H t q Y := by
  cases t; simp only [trav]; rw [h]
theorem vars_valid {H : List SNd} {Y : List Nat} : ∀ v ∈ varsOf H Y, v < H.length := fun v hv => by
  have := (List.mem_filter.1 hv).2
  unfold isV at this
  cases h : H[v]? with
  | none => rw [h] at this; cases this
  | some d => exact (List.getElem?_eq_some_iff.1 h).1
theorem lowAt_get {H : List SNd} {i : Nat} {d : SNd} (v : Nat) (lv : Int) (h : H[i]? = some d) : ∃ d', (lowAt H v lv)[i]? = some d' ∧ d'.up = d.up ∧ d'.c.kind = d.c.kind ∧ d'.c.a = d.c.a ∧ d'.c.b = d.c.b ∧ d'.c.met = d.c.met ∧ d'.c.level = if i = v then min d.c.level lv else d.c.level := by
  cases hv : H[v]? with
  | none =>
    refine ⟨d, by unfold lowAt; rw [hv]; exact h, rfl, rfl, rfl, rfl, rfl, ?_⟩
    rw [if_neg (fun e => by subst e; rw [h] at hv; cases hv)]
  | some e =>
    rw [lowAt_some hv]
    by_cases hi : i = v
    · subst hi
      rw [h] at hv; injection hv with hv; subst hv
      exact ⟨_, Sg.set_same h, rfl, rfl, rfl, rfl, rfl, by rw [if_pos rfl]⟩
    · exact ⟨d, by rw [Sg.set_other _ hi]; exact h, rfl, rfl, rfl, rfl, rfl, by rw [if_neg hi]⟩
theorem lows_get (l : List Nat) (lv : Int) : ∀ {H : List SNd} {i : Nat} {d : SNd}, H[i]? = some d → ∃ d', (lows H l lv)[i]? = some d' ∧ d'.up = d.up ∧ d'.c.kind = d.c.kind ∧ d'.c.a = d.c.a ∧ d'.c.b = d.c.b ∧ d'.c.met = d.c.met ∧ d'.c.level = if i ∈ l then min d.c.level lv else d.c.level := by
  induction l with
  | nil => intro H i d h; exact ⟨d, h, rfl, rfl, rfl, rfl, rfl, by simp⟩
  | cons v r ih =>
    intro H i d h
    obtain ⟨d1, h1, a1, a2, a3, a4, a5, a6⟩ := lowAt_get v lv h
    obtain ⟨d2, h2, b1, b2, b3, b4, b5, b6⟩ := ih h1
    refine ⟨d2, h2, b1.trans a1, b2.trans a2, b3.trans a3, b4.trans a4, b5.trans a5, ?_⟩
    rw [b6, a6]
    by_cases hi : i = v
    · subst hi; simp
    · simp [hi]
/-- What Link hands back: a variable's root rp, a root rq. -/
def LkP (B s g cap : Nat) (L C K : Int) (H : List SNd) (rp rq : Nat) (kind lv : Int) (vs : List Nat) (w : World) (e : Ending) (w' : World) : Prop :=
  Kp w.heap.size (fun z => z = s ∨ z = g) w w' ∧
  if kind ≠ 6 ∨ rp = rq then e = .returned (.int .i64 1) ∧ SV B s g cap L C K w' H
  else ∃ H', Alk H H' ∧ (∀ d ∈ H', d.c.met ≤ K + 1) ∧ if rp ∈ vs then e = .returned (.int .i64 5) ∧ SV B s g cap L C (K + 1) w' H' else e = .returned (.int .i64 0) ∧ SV B s g cap L C (K + 1) w' (Sg.link (lows H' vs lv) rp rq)
section
variable {B s g cap : Nat} {L C K : Int} {w : World} {H : List SNd}
set_option maxRecDepth 100000 in
set_option maxHeartbeats 8000000 in
theorem link12_any (h : SV B s g cap L C K w H) (hm : ∀ d ∈ H, d.c.met ≤ K) (hK : 0 ≤ K ∧ K < 4611686018427387904) {p q : Nat} {dp rp dq : SNd} (hp : H[p]? = some dp) (hrp : H[dp.up]? = some rp) (hq : H[q]? = some dq) {t : T} (hD : Den H t q) (hsz : Tp.size t ≤ 1000000) :
    Calls Try.prog 36 #[.pointer (some ⟨s, 0, none⟩), .int .i64 (p : Int), .int .i64 (q : Int)] w (LkP B s g cap L C K H dp.up dq.up rp.c.kind rp.c.level (varsOf H (trav H t q [])) w) := by
  obtain ⟨W1, hW1⟩ : ∃ W, w.alloc (.cells #[.int .i64 (p : Int), .int .i64 (q : Int)] 3) = W := ⟨_, rfl⟩
  have hb1 : Below w.heap.size w W1 := by rw [← hW1]; exact (Below.refl _ _).alloc (Nat.le_refl _) _
  have hx1 : W1.heap[w.heap.size]? = some (.cells #[.int .i64 (p : Int), .int .i64 (q : Int)] 3) := by rw [← hW1]; exact World.alloc_heap_new w _
  have hpl := (List.getElem?_eq_some_iff.1 hp).1
  have hql := (List.getElem?_eq_some_iff.1 hq).1
  have h1 := h.below hb1
  have hhv := have12_any h1 [(p : Int), (q : Int)] (some ⟨w.heap.size, 0, none⟩) 2 (by unfold maxLen; simp) (fun i hi => by
    have h2 : i < 2 := by simpa using hi
    match i, h2 with
    | 0, _ => exact ⟨_, _, rfl, cell_box hx1 rfl rfl⟩
    | 1, _ => exact ⟨_, _, rfl, cell_box hx1 rfl rfl⟩)
  rw [show [(p : Int), (q : Int)].all (okN H.length) = true from by unfold okN; simp; omega] at hhv
  have hkd := fun x (hx : SV B s g cap L C K x H) => kind12_any hx hp hrp
  have hr1 := fun x (hx : SV B s g cap L C K x H) => root12_any hx hp
  have hr2 := fun x (hx : SV B s g cap L C K x H) => root12_any hx hq
  obtain ⟨a, ha⟩ : ∃ a, dp.up = a := ⟨_, rfl⟩
  obtain ⟨b, hb⟩ : ∃ a, dq.up = a := ⟨_, rfl⟩
  obtain ⟨kk, hkk⟩ : ∃ k, rp.c.kind = k := ⟨_, rfl⟩
  obtain ⟨lv, hlv⟩ : ∃ k, rp.c.level = k := ⟨_, rfl⟩
  simp only [ha] at hr1 hrp ⊢
  simp only [hb] at hr2 ⊢
  simp only [hkk] at hkd ⊢
  simp only [hlv]
  have HHV := Lib.hid hhv; have HW1 := Lib.hid hW1; have HB1 := Lib.hid hb1; have HSV := Lib.hid h1; have HM := Lib.hid hm; have HK := Lib.hid hK; have HKD := Lib.hid hkd; have HR1 := Lib.hid hr1; have HR2 := Lib.hid hr2; have HA := Lib.hid ha; have HB := Lib.hid hb; have HKK := Lib.hid hkk; have HLV := Lib.hid hlv; have HP := Lib.hid hp; have HRP := Lib.hid hrp; have HQ := Lib.hid hq; have HD := Lib.hid hD; have HSZ := Lib.hid hsz
  clear hhv hW1 hb1 hx1 h1 hm hK hkd hr1 hr2 ha hb hkk hlv hp hrp hq hD hsz hpl hql h
  go_enter Try.func36, Try.ntmps36
  go_upto_region 1 with fail
  go_wp2_with fail
  rw [HW1.out]
  refine HHV.out.mono ?_
  rintro e w2 ⟨rfl, rfl⟩
  go_wp2_with fail
  refine (HKD.out _ HSV.out).mono ?_
  rintro e w3 ⟨rfl, hsv, hk⟩
  have HSV3 := Lib.hid hsv; have HK3 := Lib.hid ((Kp.of_below (M := fun z => z = s ∨ z = g) HB1.out).trans ((hk.mono HB1.out.size (fun _ _ h => .inr h))))
  clear hsv hk
  by_cases h6 : kk = 6
  · have h6b : (kk != 6) = false := by simp [h6]
    go_wp2_with fail
    refine (HR1.out _ HSV3.out).mono ?_
    rintro e w4 ⟨rfl, hsv, hk⟩
    have HSV4 := Lib.hid hsv; have HK4 := Lib.hid (HK3.out.trans (hk.mono HK3.out.size (fun _ _ h => .inr h)))
    clear hsv hk
    go_wp2_with fail
    refine (HR2.out _ HSV4.out).mono ?_
    rintro e w5 ⟨rfl, hsv, hk⟩
    have HSV5 := Lib.hid hsv; have HK5 := Lib.hid (HK4.out.trans (hk.mono HK4.out.size (fun _ _ h => .inr h)))
    clear hsv hk
    by_cases hab : a = b
    · have habb : ((a : Int) == (b : Int)) = true := by simp [hab]
      have HAB := Lib.hid hab; clear hab
      go_wp2_with fail
      go_ret
      refine ⟨HK5.out, ?_⟩
      rw [if_pos (.inr HAB.out)]
      exact ⟨rfl, HSV5.out⟩
    · have habb : ((a : Int) == (b : Int)) = false := by simp; omega
      have HAB := Lib.hid hab; have H6 := Lib.hid h6; clear hab h6
      have hdr := HD.out.root
      rw [rootOf_some HQ.out, HB.out] at hdr
      have htr := trav_root (H := H) (t := t) (p := b) (q := q) (by rw [hdr.2, rootOf_some HQ.out, HB.out]) []
      obtain ⟨eb, heb, hebu⟩ : ∃ e, H[b]? = some e ∧ e.up = b := by
        obtain ⟨G, hO, _⟩ := HSV.out.row
        obtain ⟨e, h1, h2⟩ := hO.root HQ.out
        rw [HB.out] at h1 h2; exact ⟨e, h1, h2⟩
      have hrau : rp.up = a := by
        obtain ⟨G, hO, _⟩ := HSV.out.row
        obtain ⟨e, h1, h2⟩ := hO.root HP.out
        rw [HA.out] at h1 h2; rw [HRP.out] at h1; injection h1 with h1; rw [h1]; exact h2
      have hvl : (varsOf H (trav H t q [])).length ≤ 4000000 := by
        have h1 : (varsOf H (trav H t q [])).length ≤ (trav H t q []).length := List.length_filter_le _ _
        have h2 := trav_len (H := H) t q []
        have := HSZ.out
        simp only [List.length_nil] at h2; omega
      have hva := fun x (hx : SV B s g cap L C K x H) => vars12_any hx HM.out HK.out hdr.1 HSZ.out
      rw [htr] at hva
      obtain ⟨vs, hvs⟩ : ∃ x, varsOf H (trav H t q []) = x := ⟨_, rfl⟩
      simp only [hvs] at hva hvl ⊢
      have HVA := Lib.hid hva; have HVL := Lib.hid hvl; have HVS := Lib.hid hvs; have HEB := Lib.hid heb; have HEBU := Lib.hid hebu; have HRAU := Lib.hid hrau
      clear hdr htr heb hebu hrau hvl hva hvs
      go_upto_region 3 with fail
      go_wp2_with fail
      refine (HR1.out _ HSV5.out).mono ?_
      rintro e w6 ⟨rfl, hsv, hk⟩
      have HSV6 := Lib.hid hsv; have HK6 := Lib.hid (HK5.out.trans (hk.mono HK5.out.size (fun _ _ h => .inr h)))
      clear hsv hk
      go_wp2_with fail
      refine (HR2.out _ HSV6.out).mono ?_
      rintro e w7 ⟨rfl, hsv, hk⟩
      have HSV7 := Lib.hid hsv; have HK7 := Lib.hid (HK6.out.trans (hk.mono HK6.out.size (fun _ _ h => .inr h)))
      clear hsv hk
      go_upto_region 4 with fail
      go_wp2_with fail
      refine (HVA.out _ HSV7.out).mono ?_
      rintro e w8 ⟨v, H', rfl, hown, hsv, hal, hmt, hk⟩
      obtain ⟨va, vc, rfl, hna, hvb⟩ := nats_own hown
      have hgl := HSV7.out.far.2.1
      have HSV8 := Lib.hid hsv; have HK8 := Lib.hid (HK7.out.trans (hk.mono HK7.out.size (fun _ _ h => h))); have HAL := Lib.hid hal; have HMT := Lib.hid hmt; have HNA := Lib.hid hna; have HVB := Lib.hid hvb; have HGL := Lib.hid hgl
      clear hsv hk hal hmt hown hna hvb hgl
      have hct := contains12_any vs a va vc w8 HVL.out HNA.out
      have HCT := Lib.hid hct; clear hct
      go_upto_region 5 with fail
      go_wp2_with fail
      refine HCT.out.mono ?_
      rintro e w9 ⟨rfl, rfl⟩
      by_cases hin : a ∈ vs
      · have hdb : decide (a ∈ vs) = true := by simp [hin]
        have HIN := Lib.hid hin; clear hin
        rw [hdb]
        go_wp2_with fail
        go_ret
        refine ⟨HK8.out, ?_⟩
        rw [if_neg (by rintro (h | h); exact h H6.out; exact HAB.out h)]
        refine ⟨H', HAL.out, HMT.out, ?_⟩
        rw [HVS.out, if_pos HIN.out]
        exact ⟨rfl, HSV8.out⟩
      · have hdb : decide (a ∈ vs) = false := by simp [hin]
        have HIN := Lib.hid hin; clear hin
        rw [hdb]
        clear hdb
        obtain ⟨ra, hra, e1, e2, e3, _⟩ := HAL.out.get HRP.out
        obtain ⟨rb, hrb, f1, _⟩ := HAL.out.get HEB.out
        have hal9 := (List.getElem?_eq_some_iff.1 hra).1
        obtain ⟨i1, i2⟩ := pt_int hal9
        obtain ⟨c0, c1, c2, c3⟩ := HSV8.out.sbox
        have cl := (HSV8.out.node hra).2.1
        rw [e3, HLV.out] at cl
        have hlw := lower12_any HSV8.out vs lv va vc HVL.out HNA.out (fun b' o e => ⟨by have := (HVB.out b' o e).1; have := HGL.out; omega, (HVB.out b' o e).2⟩) (fun v hv => by rw [← HAL.out.len]; exact vars_valid v (by rw [HVS.out]; exact hv))
        have HLW := Lib.hid hlw
        obtain ⟨la, hla, g1, _⟩ := lows_get vs lv hra
        obtain ⟨lb, hlb, g2, _⟩ := lows_get vs lv hrb
        have HLA := Lib.hid hla; have HLB := Lib.hid hlb; have G1 := Lib.hid (g1.trans (e1.trans HRAU.out)); have G2 := Lib.hid (g2.trans (f1.trans HEBU.out))
        clear hlw hla hlb g1 g2 e1 e2 e3 f1 hra hrb hal9
        go_upto_region 7 with fail
        go_wp2_with fail
        refine HLW.out.mono ?_
        clear c0 c1 c2 c3 cl
        rintro e w10 ⟨⟨u, rfl⟩, hsv, hk⟩
        have HSV10 := Lib.hid hsv; have HK10 := Lib.hid (HK8.out.trans (hk.mono HK8.out.size (fun _ _ h => .inr h)))
        clear hsv hk
        obtain ⟨c0, c1, c2, c3⟩ := HSV10.out.sbox
        rw [lows_len] at c2
        obtain ⟨u0, cu⟩ : ∃ u0, w10.cell? ⟨g, a * 6 + 4, none⟩ = some u0 := by
          obtain ⟨G, hO, hown⟩ := HSV10.out.row
          obtain ⟨gd, hgd, _⟩ := hO.get HLA.out
          exact ⟨_, (nd_cells hown hgd).2.2.2.2.1⟩
        have fu : w10.frozen? ⟨g, a * 6 + 4, none⟩ = false := HSV10.out.thaw _
        have hlk := sv_link HSV10.out HLA.out G1.out HLB.out G2.out (fun e => HAB.out e.symm)
        have HLK := Lib.hid hlk; clear hlk
        go_upto_region 8 with fail
        go_wp2_with fail
        go_ret
        refine ⟨HK10.out.setCell (.inr (.inr rfl)) _, ?_⟩
        rw [if_neg (by rintro (h | h); exact h H6.out; exact HAB.out h)]
        refine ⟨H', HAL.out, HMT.out, ?_⟩
        rw [HVS.out, if_neg HIN.out]
        exact ⟨rfl, HLK.out⟩
  · have h6b : (kk != 6) = true := by simp [h6]
    have H6 := Lib.hid h6; clear h6
    go_wp2_with fail
    go_ret
    refine ⟨HK3.out, ?_⟩
    rw [if_pos (.inl H6.out)]
    exact ⟨rfl, HSV3.out⟩
end
end Go.Proofs.Ytaaapdfdedknfaa
