/- solve.work.become. -/
import Derived.Test.YteolbbgnkbcfmaaSvG
import Derived.Test.YteolbbgnkbcfmaaSuD
namespace Go.Proofs.Yteolbbgnkbcfmaa
open Go Go.RowKit Go.Shelf
open Tp (T)
open Sg (Of Rt Den Dens Alk Mkd trav travs rootOf kidsOf)
/-- What a variable becomes, and in which store. -/
def Bec (H : List SNd) (t : T) (n : Nat) (k lv : Int) (Hb : List SNd) (z : Nat) (u : T) : Prop :=
  (Tp.without 5 t = true ∧ Hb = H ∧ z = n ∧ u = t) ∨ (Tp.without 5 t = false ∧ Hb = likeH H k lv ∧ z = H.length + ar k ∧ u = shell k H.length)
theorem mem_varsOf {H : List SNd} {Y : List Nat} {v : Nat} {d : SNd} (hd : H[v]? = some d) (h6 : d.c.kind = 6) : v ∈ varsOf H Y ↔ v ∈ Y := by
  unfold varsOf
  rw [List.mem_filter]
  constructor
  · exact fun h => h.1
  · exact fun h => ⟨h, by unfold isV; rw [hd]; exact decide_eq_true h6⟩
theorem likeH_met {H : List SNd} {K : Int} (hK : 0 ≤ K) (h : ∀ d ∈ H, d.c.met ≤ K) (k lev : Int) : ∀ d ∈ likeH H k lev, d.c.met ≤ K := fun d hd => by
  have key : ∀ j, ∀ d ∈ vns H lev j, d.c.met ≤ K := fun j => by
    induction j with
    | zero => exact h
    | succ j ih =>
      intro d hd
      rw [vns] at hd
      rcases List.mem_append.1 hd with hd | hd
      · exact ih d hd
      · obtain rfl := List.mem_singleton.1 hd; exact hK
  unfold likeH at hd
  rcases List.mem_append.1 hd with hd | hd
  · exact key _ d hd
  · obtain rfl := List.mem_singleton.1 hd; exact hK
theorem shell_size (k : Int) (N : Nat) : Tp.size (shell k N) ≤ 3 := by
  have h2 := ar_le k
  have h12 : ar k = 0 ∨ ar k = 1 ∨ ar k = 2 := by omega
  unfold shell
  rcases h12 with e | e | e <;> rw [e] <;> simp [Tp.size, Tp.sizes, List.range_succ]
theorem vns_alk {H H2 : List SNd} (h : Alk H H2) (lev : Int) : ∀ j, Alk (vns H lev j) (vns H2 lev j)
  | 0 => h
  | j + 1 => by
    have h1 := vns_alk h lev j
    have e := h1.len
    unfold Sg.Alk at h1 ⊢
    rw [vns, vns, List.map_append, List.map_append, h1, e]
theorem likeH_alk {H H2 : List SNd} (h : Alk H H2) (k lev : Int) : Alk (likeH H k lev) (likeH H2 k lev) := by
  have h1 := vns_alk h lev (ar k)
  have e := h.len
  unfold Sg.Alk at h1 ⊢
  rw [likeH, likeH, List.map_append, List.map_append, h1, e]
theorem varsOf_alk {A B : List SNd} (h : Alk A B) (Y : List Nat) : varsOf A Y = varsOf B Y := by
  unfold varsOf
  refine List.filter_congr (fun r _ => ?_)
  unfold isV
  cases hA : A[r]? with
  | none =>
    have : B[r]? = none := by rw [List.getElem?_eq_none_iff] at hA ⊢; rw [← h.len]; exact hA
    rw [this]
  | some d =>
    obtain ⟨e, q1, _, q3, _⟩ := h.get hA
    rw [q1]; dsimp only; rw [q3]
section
variable {Bs b s : Nat} {oa : Option Addr} {oc mb mc nd ns : Nat} {w : World} {P : List Pr} {D : List (Nat × Nat)} {S : IMap}
variable {Bv g cap : Nat} {L C K : Int} {H : List SNd}
def BcP (Bs b s : Nat) (oa : Option Addr) (oc mb mc nd : Nat) (P : List Pr) (D : List (Nat × Nat)) (Bv g : Nat) (L C K : Int) (H : List SNd) (t : T) (v n : Nat) (k lv : Int) (w : World) (e : Ending) (w' : World) : Prop :=
  ∃ (g' cap' : Nat) (S' : IMap) (ns' : Nat) (K' : Int), (K ≤ K' ∧ K' ≤ K + 2) ∧ Kp w.heap.size (fun i => i = s ∨ i = g ∨ i = mc) w w' ∧ (g' = g ∨ w.heap.size ≤ g') ∧ WK Bs b s oa oc mb mc nd ns' w' P D S' ∧
    if v ∈ trav H t n [] then ∃ (z : Nat) (H1 : List SNd), e = .returned (.tuple #[.int .i64 (z : Int), .int .i64 5]) ∧ Alk H H1 ∧ SV Bv s g' cap' L C K' w' H1 ∧ ∀ d ∈ H1, d.c.met ≤ K'
    else ∃ (Hb H3 : List SNd) (z : Nat) (u : T), e = .returned (.tuple #[.int .i64 (z : Int), .int .i64 0]) ∧ Bec H t n k lv Hb z u ∧ Alk Hb H3 ∧ (∀ d ∈ H3, d.c.met ≤ K') ∧ SV Bv s g' cap' L (C + ((Hb.length : Int) - (H.length : Int))) K' w' (lnk H3 (varsOf Hb (trav Hb u z [])) lv v z) ∧ SOk (lnk H3 (varsOf Hb (trav Hb u z [])) lv v z) S' ns'
set_option maxRecDepth 100000 in
set_option maxHeartbeats 8000000 in
theorem become13_any (hwk : WK Bs b s oa oc mb mc nd ns w P D S) (hsv : SV Bv s g cap L C K w H) (hm : ∀ d ∈ H, d.c.met ≤ K) (hK : 0 ≤ K ∧ K < 4611686018427387000) (hBd : Bds L C H) (hso : SOk H S ns) (hbig : H.length ≤ 1000000) (hC : C + 3 ≤ L)
    {v n : Nat} {dv dn : SNd} (hv : H[v]? = some dv) (hvu : dv.up = v) (hv6 : dv.c.kind = 6) (hlv : 0 ≤ dv.c.level) (hn : H[n]? = some dn) (hnu : dn.up = n) (hn5 : dn.c.kind ≠ 5) {t : T} (hD : Den H t n) (hsz : Tp.size t ≤ 1000000) (hne : n ≠ v) (fr : Bool) (hfr : fr = true → ¬ v ∈ trav H t n []) :
    Calls Try.prog 89 #[.pointer (some ⟨b, 0, none⟩), .int .i64 (v : Int), .int .i64 (n : Int), .bool fr] w (BcP Bs b s oa oc mb mc nd P D Bv g L C K H t v n dn.c.kind dv.c.level w) := by
  have hst := static13_any (nd := nd) (P := P) (D := D) hbig (Tp.size t) t n S ns w (Nat.le_refl _) hD hwk hsv hso
  obtain ⟨wb, hwb⟩ : ∃ wb, Tp.without 5 t = wb := ⟨_, rfl⟩
  have hgl := hsv.far
  have HST := Lib.hid hst; have HWB := Lib.hid hwb; have HM := Lib.hid hm; have HK := Lib.hid hK; have HBD := Lib.hid hBd; have HBIG := Lib.hid hbig; have HC := Lib.hid hC; have HV := Lib.hid hv; have HVU := Lib.hid hvu; have HV6 := Lib.hid hv6; have HLV := Lib.hid hlv; have HN := Lib.hid hn; have HNU := Lib.hid hnu; have HN5 := Lib.hid hn5; have HD := Lib.hid hD; have HSZ := Lib.hid hsz; have HNE := Lib.hid hne; have HFR := Lib.hid hfr; have HGL := Lib.hid hgl
  clear hst hm hK hBd hbig hC hv hvu hv6 hlv hn hnu hn5 hD hsz hne hfr hwk hsv hso hwb hgl
  go_enter Try.func89, Try.ntmps89
  go_wp2_with fail
  refine HST.out.mono ?_
  clear HST
  rintro e w1 ⟨S1, ns1, rfl, hwk, hsv, hso, hk, -⟩
  rw [HWB.out]
  have b0 : w1.cell? ⟨b, 0, none⟩ = some (.pointer (some ⟨s, 0, none⟩)) := cell_box hwk.box rfl rfl
  have HW1 := Lib.hid hwk; have S1' := Lib.hid hsv; have HSO := Lib.hid hso; have HK1 := Lib.hid hk
  cases wb with
  | true =>
    have hlk := link12_any hsv HM.out ⟨HK.out.1, by have := HK.out.2; omega⟩ HV.out (rp := dv) (by rw [HVU.out]; exact HV.out) HN.out HD.out HSZ.out
    rw [HVU.out, HNU.out, HV6.out] at hlk
    unfold LkP at hlk
    simp only [show ¬ ((6 : Int) ≠ 6 ∨ v = n) from by have := HNE.out; omega, if_false] at hlk
    have HLK := Lib.hid hlk
    clear hlk hwk hsv hso hk
    go_wp2_with fail
    refine HLK.out.mono ?_
    clear HLK b0
    rintro e w2 ⟨hk, H2, ha, hm2, h⟩
    have hwk2 := HW1.out.kp S1'.out hk
    have hkk : Kp w.heap.size (fun i => i = s ∨ i = g ∨ i = mc) w w2 := (HK1.out.mono (Nat.le_refl _) (fun _ _ h => .inr h)).trans (hk.mono HK1.out.size (fun i _ h => by rcases h with h | h; exact .inl h; exact .inr (.inl h)))
    have hmv := mem_varsOf (Y := trav H t n []) HV.out HV6.out
    by_cases hin : v ∈ trav H t n []
    · rw [if_pos (hmv.2 hin)] at h
      obtain ⟨rfl, hsv⟩ := h
      have HH := Lib.hid (And.intro hwk2 (And.intro hkk (And.intro hsv (And.intro ha hm2)))); have HIN := Lib.hid hin
      clear hwk2 hkk hsv ha hm2 hin hmv hk
      go_wp2_with fail
      refine bodyPost_ret (v := .tuple #[.int .i64 (n : Int), .int .i64 5]) (by simp [results, Try.f89, go_sem]) rfl ?_
      exact ⟨g, cap, S1, ns1, K + 1, by omega, HH.out.2.1, .inl rfl, HH.out.1, by rw [if_pos HIN.out]; exact ⟨n, H2, rfl, HH.out.2.2.2.1, HH.out.2.2.1, HH.out.2.2.2.2⟩⟩
    · rw [if_neg (fun h => hin (hmv.1 h))] at h
      obtain ⟨rfl, hsv⟩ := h
      have hso2 := HSO.out.lnk (vs := varsOf H (trav H t n [])) (lv := dv.c.level) ha HV.out HVU.out HV6.out HD.out HN.out HNU.out hin HWB.out
      have HH := Lib.hid (And.intro hwk2 (And.intro hkk (And.intro hsv (And.intro ha hm2)))); have HIN := Lib.hid hin; have HS2 := Lib.hid hso2
      clear hwk2 hkk hsv ha hm2 hin hmv hk hso2
      go_wp2_with fail
      refine bodyPost_ret (v := .tuple #[.int .i64 (n : Int), .int .i64 0]) (by simp [results, Try.f89, go_sem]) rfl ?_
      refine ⟨g, cap, S1, ns1, K + 1, by omega, HH.out.2.1, .inl rfl, HH.out.1, ?_⟩
      rw [if_neg HIN.out]
      exact ⟨H, H2, n, t, rfl, .inl ⟨HWB.out, rfl, rfl, rfl⟩, HH.out.2.2.2.1, HH.out.2.2.2.2, by rw [Int.sub_self, Int.add_zero]; exact HH.out.2.2.1, HS2.out⟩
  | false =>
    have hk6 : dn.c.kind = t.kind := by
      obtain ⟨d, r, q1, q2, q3, q4, _⟩ := HD.out.open
      rw [HN.out] at q1; injection q1 with q1
      rw [← q1, HNU.out, HN.out] at q2; injection q2 with q2
      rw [q2]; exact q4
    have h0 : 0 < ar dn.c.kind := by
      obtain ⟨d, r, q1, q2, q3, q4, _, q6⟩ := HD.out.open
      have h9 := q6.len
      rw [kidL_len, q4, ← hk6] at h9
      rcases Nat.eq_zero_or_pos (ar dn.c.kind) with h | h
      · rw [h] at h9
        have hl := List.eq_nil_of_length_eq_zero h9
        have h8 := without_kids5 (t := t) (by rw [← hk6]; exact HN5.out)
        rw [hl, HWB.out] at h8
        cases h8
      · exact h
    have H0 := Lib.hid h0
    clear hk6 h0
    -- the walk from region 5 on
    have hgo : ∀ (w2 : World) (H2 : List SNd) (K2 : Int), WK Bs b s oa oc mb mc nd ns1 w2 P D S1 → SV Bv s g cap L C K2 w2 H2 → Alk H H2 → (∀ d ∈ H2, d.c.met ≤ K2) → K ≤ K2 → K2 ≤ K + 1 → ¬ v ∈ trav H t n [] →
        (Calls Try.prog 50 #[.pointer (some ⟨s, 0, none⟩), .int .i64 (v : Int)] w2 fun e w' => e = .returned (.int .i64 dv.c.level) ∧ SV Bv s g cap L C K2 w' H2 ∧ Kp w2.heap.size (fun k => k = g) w2 w') := fun w2 H2 K2 hwk hsv ha hm2 _ _ _ => by
      obtain ⟨d', q1, q2, q3, q4, _⟩ := ha.get HV.out
      have h9 := level12_any hsv q1 (r := d') (by rw [q2, HVU.out]; exact q1)
      rw [q3, HV6.out, if_pos rfl, q4] at h9
      exact h9
    have hend : ∀ (w3 : World) (H2 : List SNd) (K2 : Int), WK Bs b s oa oc mb mc nd ns1 w3 P D S1 → SV Bv s g cap L C K2 w3 H2 → Alk H H2 → Calls Try.prog 122 #[.pointer (some ⟨b, 0, none⟩), .int .i64 (n : Int), .int .i64 dv.c.level] w3 (LiP Bv s g L C K2 H2 dn.c.kind dv.c.level w3) := fun w3 H2 K2 hwk hsv ha => by
      obtain ⟨d', q1, q2, q3, _⟩ := ha.get HN.out
      have h9 := like13_any hwk hsv (HBD.out.len ha.len.symm) q1 (r := d') (by rw [q2, HNU.out]; exact q1) (by rw [q3]; exact H0.out) dv.c.level HLV.out HC.out
      rw [q3] at h9
      exact h9
    have hlast : ∀ (w4 : World) (H2 : List SNd) (K2 : Int) (g4 cap4 : Nat), SV Bv s g4 cap4 L (C + (ar dn.c.kind : Int) + 1) K2 w4 (likeH H2 dn.c.kind dv.c.level) → Alk H H2 → (∀ d ∈ H2, d.c.met ≤ K2) → 0 ≤ K2 → K2 ≤ K + 1 →
        Calls Try.prog 54 #[.pointer (some ⟨s, 0, none⟩), .int .i64 (v : Int), .int .i64 ((H2.length + ar dn.c.kind : Nat) : Int)] w4 fun e w' => e = .returned (.int .i64 0) ∧ Kp w4.heap.size (fun z => z = s ∨ z = g4) w4 w' ∧ ∃ H3, Alk (likeH H2 dn.c.kind dv.c.level) H3 ∧ (∀ d ∈ H3, d.c.met ≤ K2 + 1) ∧ SV Bv s g4 cap4 L (C + (ar dn.c.kind : Int) + 1) (K2 + 1) w' (lnk H3 (varsOf (likeH H2 dn.c.kind dv.c.level) (trav (likeH H2 dn.c.kind dv.c.level) (shell dn.c.kind H2.length) (H2.length + ar dn.c.kind) [])) dv.c.level v (H2.length + ar dn.c.kind)) := fun w4 H2 K2 g4 cap4 hsv ha hm2 hk0 hk1 => by
      obtain ⟨d', q1, q2, q3, q4, _⟩ := ha.get HV.out
      have hvl := (List.getElem?_eq_some_iff.1 q1).1
      obtain ⟨N, hN⟩ := likeH_pre H2 dn.c.kind dv.c.level
      have q1' : (likeH H2 dn.c.kind dv.c.level)[v]? = some d' := by rw [hN, List.getElem?_append_left hvl]; exact q1
      have hlk := link12_any hsv (likeH_met hk0 hm2 _ _) ⟨hk0, by have := HK.out.2; omega⟩ q1' (rp := d') (by rw [q2, HVU.out]; exact q1') (likeH_node H2 dn.c.kind dv.c.level) (likeH_den H0.out) (by have := shell_size dn.c.kind H2.length; omega)
      refine hlk.mono ?_
      rintro e w' ⟨hk, h⟩
      rw [q2, HVU.out, q3, HV6.out, q4] at h
      rw [if_neg (by dsimp only; omega)] at h
      obtain ⟨H3, ha3, hm3, h⟩ := h
      have hni : ¬ v ∈ varsOf (likeH H2 dn.c.kind dv.c.level) (trav (likeH H2 dn.c.kind dv.c.level) (shell dn.c.kind H2.length) (H2.length + ar dn.c.kind) []) := fun hh => by
        have := likeH_in H0.out (List.mem_filter.1 hh).1
        omega
      rw [if_neg hni] at h
      exact ⟨h.1, hk, H3, ha3, hm3, h.2⟩
    have HGO := Lib.hid hgo; have HEND := Lib.hid hend; have HLAST := Lib.hid hlast
    clear hgo hend hlast hwk hsv hso hk
    cases fr with
    | true =>
      have HNI := Lib.hid (HFR.out rfl)
      have HA1 := Lib.hid (Alk.refl H)
      have HKP1 := Lib.hid (HK1.out.mono (M' := fun i => i = s ∨ i = g ∨ i = mc) (Nat.le_refl _) (fun _ _ h => .inr h))
      clear b0
      have b0 : w1.cell? ⟨b, 0, none⟩ = some (.pointer (some ⟨s, 0, none⟩)) := cell_box HW1.out.box rfl rfl
      go_wp2_with fail
      refine (HGO.out w1 H (K) HW1.out S1'.out HA1.out HM.out (by omega) (by omega) HNI.out).mono ?_
      rintro e w3 ⟨rfl, hsv, hk⟩
      have hwk3 := HW1.out.kp S1'.out (hk.mono (Nat.le_refl _) (fun _ _ h => .inr h))
      have HW3 := Lib.hid hwk3; have S3 := Lib.hid hsv; have HK3 := Lib.hid (HKP1.out.trans (hk.mono HKP1.out.size (fun _ _ h => .inr (.inl h))))
      clear hwk3 hsv hk b0
      go_wp2_with fail
      refine (HEND.out w3 H (K) HW3.out S3.out HA1.out).mono ?_
      rintro e w4 ⟨g4, cap4, rfl, hsv, hk, hg4⟩
      have hwk4 := HW3.out.kp S3.out hk
      have HLA := Lib.hid (HLAST.out w4 H (K) g4 cap4 hsv HA1.out HM.out (by have := HK.out.1; omega) (by omega))
      have b0 : w4.cell? ⟨b, 0, none⟩ = some (.pointer (some ⟨s, 0, none⟩)) := cell_box hwk4.box rfl rfl
      have HW4 := Lib.hid hwk4; have S4 := Lib.hid hsv; have HK4 := Lib.hid (HK3.out.trans (hk.mono HK3.out.size (fun i _ h => by rcases h with h | h; exact .inl h; exact .inr (.inl h)))); have HG4 := Lib.hid hg4
      have HZ3 := Lib.hid HK3.out.size
      clear hwk4 hsv hk hg4
      go_wp2_with fail
      refine HLA.out.mono ?_
      clear HLA b0
      rintro e w5 ⟨rfl, hk, H3, ha3, hm3, hsv⟩
      have hwk5 := HW4.out.kp S4.out hk
      have hal := likeH_alk HA1.out dn.c.kind dv.c.level
      have hl2 : H.length = H.length := HA1.out.len.symm
      (first | rw [hl2] at hsv ⊢ | skip)
      rw [← varsOf_alk hal, ← trav_alk hal] at hsv
      have hvl := (List.getElem?_eq_some_iff.1 HV.out).1
      obtain ⟨N, hN⟩ := likeH_pre H dn.c.kind dv.c.level
      have hvL : (likeH H dn.c.kind dv.c.level)[v]? = some dv := by rw [hN, List.getElem?_append_left hvl]; exact HV.out
      have hnl : ¬ v ∈ trav (likeH H dn.c.kind dv.c.level) (shell dn.c.kind H.length) (H.length + ar dn.c.kind) [] := fun hh => by have := likeH_in H0.out hh; omega
      have hso5 := (show SOk (likeH H dn.c.kind dv.c.level) S1 ns1 by rw [hN]; exact HSO.out.more N).lnk (vs := varsOf (likeH H dn.c.kind dv.c.level) (trav (likeH H dn.c.kind dv.c.level) (shell dn.c.kind H.length) (H.length + ar dn.c.kind) [])) (lv := dv.c.level) (hal.trans ha3) hvL HVU.out HV6.out (likeH_den H0.out) (likeH_node H dn.c.kind dv.c.level) rfl hnl (shell_static HN5.out _)
      have HW5 := Lib.hid hwk5; have S5 := Lib.hid hsv; have HA3 := Lib.hid (hal.trans ha3); have HM3 := Lib.hid hm3; have HS5 := Lib.hid hso5
      have HK5 := Lib.hid (HK4.out.trans (hk.mono HK4.out.size (fun i hi h => by have := HG4.out; have := HZ3.out; have := HGL.out; rcases h with h | h; exact .inl h; exact .inr (.inl (by omega)))))
      clear hwk5 hsv ha3 hm3 hso5 hal hvl hN hvL hnl hk hl2
      go_wp2_with fail
      refine bodyPost_ret (v := .tuple #[.int .i64 ((H.length + ar dn.c.kind : Nat) : Int), .int .i64 0]) (by simp [results, Try.f89, go_sem]) rfl ?_
      refine ⟨g4, cap4, S1, ns1, K + 1, by omega, HK5.out, by have := HG4.out; have := HZ3.out; omega, HW5.out, ?_⟩
      rw [if_neg HNI.out]
      refine ⟨likeH H dn.c.kind dv.c.level, H3, H.length + ar dn.c.kind, shell dn.c.kind H.length, rfl, .inr ⟨HWB.out, rfl, rfl, rfl⟩, HA3.out, HM3.out, ?_, HS5.out⟩
      rw [likeH_len, show C + (((H.length + ar dn.c.kind + 1 : Nat) : Int) - (H.length : Int)) = C + (ar dn.c.kind : Int) + 1 from by omega]
      exact S5.out
    | false =>
      have hwi := within12_any S1'.out HM.out ⟨HK.out.1, by have := HK.out.2; omega⟩ HV.out HD.out
      rw [HVU.out] at hwi
      unfold WnP at hwi
      have HWI := Lib.hid hwi
      clear hwi
      go_wp2_with fail
      refine HWI.out.mono ?_
      clear HWI b0
      rintro e w2 ⟨rfl, H2, hsv, ha, hm2, hk⟩
      have hwk2 := HW1.out.kp S1'.out hk
      have HW2 := Lib.hid hwk2; have S2 := Lib.hid hsv; have HA2 := Lib.hid ha; have HM2 := Lib.hid hm2
      have HKP2 := Lib.hid ((HK1.out.mono (M' := fun i => i = s ∨ i = g ∨ i = mc) (Nat.le_refl _) (fun _ _ h => .inr h)).trans (hk.mono HK1.out.size (fun i _ h => by rcases h with h | h; exact .inl h; exact .inr (.inl h))))
      clear hwk2 hsv ha hm2 hk
      by_cases hin : v ∈ trav H t n []
      · have hib : decide (v ∈ trav H t n []) = true := decide_eq_true hin
        rw [hib]
        have HIN := Lib.hid hin
        clear hin hib
        go_wp2_with fail
        refine bodyPost_ret (v := .tuple #[.int .i64 0, .int .i64 5]) (by simp [results, Try.f89, go_sem]) rfl ?_
        exact ⟨g, cap, S1, ns1, K + 1, by omega, HKP2.out, .inl rfl, HW2.out, by rw [if_pos HIN.out]; exact ⟨0, H2, rfl, HA2.out, S2.out, HM2.out⟩⟩
      · have hib : decide (v ∈ trav H t n []) = false := decide_eq_false hin
        rw [hib]
        have HNI := Lib.hid hin
        clear hin hib
        have b0 : w2.cell? ⟨b, 0, none⟩ = some (.pointer (some ⟨s, 0, none⟩)) := cell_box HW2.out.box rfl rfl
        go_wp2_with fail
        refine (HGO.out w2 H2 (K + 1) HW2.out S2.out HA2.out HM2.out (by omega) (by omega) HNI.out).mono ?_
        rintro e w3 ⟨rfl, hsv, hk⟩
        have hwk3 := HW2.out.kp S2.out (hk.mono (Nat.le_refl _) (fun _ _ h => .inr h))
        have HW3 := Lib.hid hwk3; have S3 := Lib.hid hsv; have HK3 := Lib.hid (HKP2.out.trans (hk.mono HKP2.out.size (fun _ _ h => .inr (.inl h))))
        clear hwk3 hsv hk b0
        go_wp2_with fail
        refine (HEND.out w3 H2 (K + 1) HW3.out S3.out HA2.out).mono ?_
        rintro e w4 ⟨g4, cap4, rfl, hsv, hk, hg4⟩
        have hwk4 := HW3.out.kp S3.out hk
        have HLA := Lib.hid (HLAST.out w4 H2 (K + 1) g4 cap4 hsv HA2.out HM2.out (by have := HK.out.1; omega) (by omega))
        have b0 : w4.cell? ⟨b, 0, none⟩ = some (.pointer (some ⟨s, 0, none⟩)) := cell_box hwk4.box rfl rfl
        have HW4 := Lib.hid hwk4; have S4 := Lib.hid hsv; have HK4 := Lib.hid (HK3.out.trans (hk.mono HK3.out.size (fun i _ h => by rcases h with h | h; exact .inl h; exact .inr (.inl h)))); have HG4 := Lib.hid hg4
        have HZ3 := Lib.hid HK3.out.size
        clear hwk4 hsv hk hg4
        go_wp2_with fail
        refine HLA.out.mono ?_
        clear HLA b0
        rintro e w5 ⟨rfl, hk, H3, ha3, hm3, hsv⟩
        have hwk5 := HW4.out.kp S4.out hk
        have hal := likeH_alk HA2.out dn.c.kind dv.c.level
        have hl2 : H2.length = H.length := HA2.out.len.symm
        (first | rw [hl2] at hsv ⊢ | skip)
        rw [← varsOf_alk hal, ← trav_alk hal] at hsv
        have hvl := (List.getElem?_eq_some_iff.1 HV.out).1
        obtain ⟨N, hN⟩ := likeH_pre H dn.c.kind dv.c.level
        have hvL : (likeH H dn.c.kind dv.c.level)[v]? = some dv := by rw [hN, List.getElem?_append_left hvl]; exact HV.out
        have hnl : ¬ v ∈ trav (likeH H dn.c.kind dv.c.level) (shell dn.c.kind H.length) (H.length + ar dn.c.kind) [] := fun hh => by have := likeH_in H0.out hh; omega
        have hso5 := (show SOk (likeH H dn.c.kind dv.c.level) S1 ns1 by rw [hN]; exact HSO.out.more N).lnk (vs := varsOf (likeH H dn.c.kind dv.c.level) (trav (likeH H dn.c.kind dv.c.level) (shell dn.c.kind H.length) (H.length + ar dn.c.kind) [])) (lv := dv.c.level) (hal.trans ha3) hvL HVU.out HV6.out (likeH_den H0.out) (likeH_node H dn.c.kind dv.c.level) rfl hnl (shell_static HN5.out _)
        have HW5 := Lib.hid hwk5; have S5 := Lib.hid hsv; have HA3 := Lib.hid (hal.trans ha3); have HM3 := Lib.hid hm3; have HS5 := Lib.hid hso5
        have HK5 := Lib.hid (HK4.out.trans (hk.mono HK4.out.size (fun i hi h => by have := HG4.out; have := HZ3.out; have := HGL.out; rcases h with h | h; exact .inl h; exact .inr (.inl (by omega)))))
        clear hwk5 hsv ha3 hm3 hso5 hal hvl hN hvL hnl hk hl2
        go_wp2_with fail
        refine bodyPost_ret (v := .tuple #[.int .i64 ((H.length + ar dn.c.kind : Nat) : Int), .int .i64 0]) (by simp [results, Try.f89, go_sem]) rfl ?_
        refine ⟨g4, cap4, S1, ns1, K + 1 + 1, by omega, HK5.out, by have := HG4.out; have := HZ3.out; omega, HW5.out, ?_⟩
        rw [if_neg HNI.out]
        refine ⟨likeH H dn.c.kind dv.c.level, H3, H.length + ar dn.c.kind, shell dn.c.kind H.length, rfl, .inr ⟨HWB.out, rfl, rfl, rfl⟩, HA3.out, HM3.out, ?_, HS5.out⟩
        rw [likeH_len, show C + (((H.length + ar dn.c.kind + 1 : Nat) : Int) - (H.length : Int)) = C + (ar dn.c.kind : Int) + 1 from by omega]
        exact S5.out
end
end Go.Proofs.Yteolbbgnkbcfmaa
