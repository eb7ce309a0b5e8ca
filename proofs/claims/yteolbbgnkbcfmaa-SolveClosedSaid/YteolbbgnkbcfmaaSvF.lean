/- solve.work.static. -/
import Derived.Test.YteolbbgnkbcfmaaSvE
namespace Go.Proofs.Yteolbbgnkbcfmaa
open Go Go.RowKit Go.Shelf
open Tp (T)
open Sg (Of Rt Den Dens Alk Mkd trav travs rootOf kidsOf)
/-- What is known of roots: is ? within? -/
structure SOk (H : List SNd) (S : IMap) (ns : Nat) : Prop where
  val : ∀ (i : Int) e, S i = some e → ∃ (r : Nat) (t : T), i = (r : Int) ∧ Den H t r ∧ e = if Tp.without 5 t = true then 1 else 0
  cnt : ∃ ks : List Nat, ks.Nodup ∧ ns = ks.length ∧ ∀ k ∈ ks, k < H.length ∧ S (k : Int) ≠ none
theorem nodup_len : ∀ (n : Nat) (l : List Nat), l.Nodup → (∀ x ∈ l, x < n) → l.length ≤ n
  | 0, l, _, h => by
    cases l with
    | nil => exact Nat.le_refl _
    | cons a r => exact absurd (h a (by simp)) (by omega)
  | n + 1, l, hn, h => by
    have h1 := nodup_len n (l.erase n) (hn.erase n) (fun x hx => by
      have h2 := (hn.mem_erase_iff).1 hx
      have h3 := h x h2.2
      have h4 : x ≠ n := h2.1
      omega)
    have h2 : l.length ≤ (l.erase n).length + 1 := by rw [List.length_erase]; split <;> omega
    omega
theorem SOk.le {H : List SNd} {S : IMap} {ns : Nat} (h : SOk H S ns) : ns ≤ H.length := by
  obtain ⟨ks, h1, h2, h3⟩ := h.cnt
  rw [h2]; exact nodup_len _ _ h1 (fun x hx => (h3 x hx).1)
theorem SOk.new (H : List SNd) : SOk H (fun _ => none) 0 := ⟨fun i e h => (by cases h), ⟨[], List.nodup_nil, rfl, fun k h => (by cases h)⟩⟩
theorem SOk.put {H : List SNd} {S : IMap} {ns : Nat} (h : SOk H S ns) {r : Nat} {t : T} (hd : Den H t r) (hno : S (r : Int) = none) : SOk H (imPut S (r : Int) (if Tp.without 5 t = true then 1 else 0)) (ns + 1) := by
  refine ⟨fun i e he => ?_, ?_⟩
  · unfold imPut at he
    split at he
    · rename_i hi
      injection he with he
      exact ⟨r, t, hi, hd, he.symm⟩
    · exact h.val i e he
  · obtain ⟨ks, h1, h2, h3⟩ := h.cnt
    refine ⟨r :: ks, List.nodup_cons.2 ⟨fun hm => (h3 r hm).2 hno, h1⟩, by rw [h2, List.length_cons], fun k hk => ?_⟩
    rcases List.mem_cons.1 hk with rfl | hk
    · obtain ⟨d, _, q1, _⟩ := hd.open
      exact ⟨(List.getElem?_eq_some_iff.1 q1).1, by unfold imPut; rw [if_pos rfl]; simp⟩
    · refine ⟨(h3 k hk).1, ?_⟩
      unfold imPut
      split
      · simp
      · exact (h3 k hk).2
theorem SOk.alk {H H' : List SNd} {S : IMap} {ns : Nat} (h : SOk H S ns) (ha : Alk H H') : SOk H' S ns :=
  ⟨fun i e he => by obtain ⟨r, t, q1, q2, q4⟩ := h.val i e he; exact ⟨r, t, q1, q2.alk ha, q4⟩, by rw [← ha.len]; exact h.cnt⟩
theorem without_kids5 {t : T} (h : t.kind ≠ 5) : Tp.without 5 t = Tp.withouts 5 t.kids := by
  cases t with
  | mk k n l => simp only [Tp.T.kind] at h; simp [Tp.without, Tp.T.kids, h]
theorem withouts_snoc5 : ∀ (l : List T) (x : T), Tp.withouts 5 (l ++ [x]) = (Tp.withouts 5 l && Tp.without 5 x)
  | [], x => by simp [Tp.withouts]
  | t :: r, x => by rw [List.cons_append, Tp.withouts, withouts_snoc5 r x, Tp.withouts, Bool.and_assoc]
/-- What a row of kids comes to. -/
def knw (l : List T) (j : Nat) : Int := if Tp.withouts 5 (l.take j) = true then 1 else 0
section
variable {Bs b s : Nat} {oa : Option Addr} {oc mb mc nd : Nat} {P : List Pr} {D : List (Nat × Nat)}
variable {Bv g cap : Nat} {L C K : Int} {H : List SNd}
def StP (Bs b s : Nat) (oa : Option Addr) (oc mb mc nd : Nat) (P : List Pr) (D : List (Nat × Nat)) (Bv g cap : Nat) (L C K : Int) (H : List SNd) (t : T) (S : IMap) (w : World) (e : Ending) (w' : World) : Prop :=
  ∃ S' ns', e = .returned (.bool (Tp.without 5 t)) ∧ WK Bs b s oa oc mb mc nd ns' w' P D S' ∧ SV Bv s g cap L C K w' H ∧ SOk H S' ns' ∧ Kp w.heap.size (fun k => k = g ∨ k = mc) w w' ∧ ∀ i e, S' i = some e → S i = some e ∨ ∃ (r : Nat) (u : T), i = (r : Int) ∧ Den H u r ∧ rootOf H r = r ∧ Tp.size u ≤ Tp.size t
set_option maxRecDepth 100000 in
set_option maxHeartbeats 8000000 in
theorem static13_any (hbig : H.length ≤ 1000000) : ∀ (n : Nat) (t : T) (p : Nat) (S : IMap) (ns : Nat) (w : World), Tp.size t ≤ n → Den H t p → WK Bs b s oa oc mb mc nd ns w P D S → SV Bv s g cap L C K w H → SOk H S ns →
    Calls Try.prog 121 #[.pointer (some ⟨b, 0, none⟩), .int .i64 (p : Int)] w (StP Bs b s oa oc mb mc nd P D Bv g cap L C K H t S w) := by
  intro n
  induction n with
  | zero => intro t p S ns w h; have := Tp.size_pos t; omega
  | succ n ih =>
    intro t p S ns w hn hD hwk hsv hso
    obtain ⟨d, r, hd, hr, hur, hkr, hnum, hds⟩ := hD.open
    obtain ⟨hD2, hroot⟩ := hD.root
    have hrt : rootOf H p = d.up := by unfold Sg.rootOf; rw [hd]
    rw [hrt] at hD2 hroot
    obtain ⟨q, hq⟩ : ∃ q, d.up = q := ⟨_, rfl⟩
    rw [hq] at hr hur hD2 hroot
    have hql := (List.getElem?_eq_some_iff.1 hr).1
    have hap := hwk.apart hsv (i := b) (.inl rfl)
    have b0 : w.cell? ⟨b, 0, none⟩ = some (.pointer (some ⟨s, 0, none⟩)) := cell_box hwk.box rfl rfl
    have hrtc := root12_any hsv hd
    rw [hq] at hrtc
    have HN := Lib.hid hn; have HD := Lib.hid hD2; have HRT := Lib.hid hroot; have HR := Lib.hid hr; have HUR := Lib.hid hur; have HKR0 := Lib.hid hkr; have HDS := Lib.hid hds; have HQL := Lib.hid hql; have HAP := Lib.hid hap; have HRTC := Lib.hid hrtc; have HWK := Lib.hid hwk; have HSV := Lib.hid hsv; have HSO := Lib.hid hso; have IH := Lib.hid ih; have HBIG := Lib.hid hbig
    clear hn hD hD2 hroot hrt hd hr hur hkr hnum hds hql hap hrtc hwk hsv hso ih hq
    go_enter Try.func121, Try.ntmps121
    go_wp2_with fail
    refine HRTC.out.mono ?_
    clear HRTC b0
    rintro e w1 ⟨rfl, hsv, hk⟩
    have hwk := HWK.out.kp HSV.out (hk.mono (Nat.le_refl _) (fun _ _ h => .inr h))
    have b0 : w1.cell? ⟨b, 0, none⟩ = some (.pointer (some ⟨s, 0, none⟩)) := cell_box hwk.box rfl rfl
    have hkd := kind12_any hsv HR.out (r := r) (by rw [HUR.out]; exact HR.out)
    have HW1 := Lib.hid hwk; have S1 := Lib.hid hsv; have K1 := Lib.hid hk; have HKD := Lib.hid hkd
    clear hwk hsv hk hkd
    go_wp2_with fail
    refine HKD.out.mono ?_
    clear HKD b0
    rintro e w2 ⟨rfl, hsv, hk⟩
    have hwk := HW1.out.kp S1.out (hk.mono (Nat.le_refl _) (fun _ _ h => .inr h))
    have b0 : w2.cell? ⟨b, 0, none⟩ = some (.pointer (some ⟨s, 0, none⟩)) := cell_box hwk.box rfl rfl
    have b3 : w2.cell? ⟨b, 3, none⟩ = some (.map (some mc)) := cell_box hwk.box rfl rfl
    have HW2 := Lib.hid hwk; have S2 := Lib.hid hsv; have K2 := Lib.hid (K1.out.trans (hk.mono K1.out.size (fun _ _ h => h)))
    clear hwk hsv hk HW1 S1
    obtain ⟨kk, hkk⟩ : ∃ k, r.c.kind = k := ⟨_, rfl⟩
    rw [hkk]
    have HKK := Lib.hid hkk
    clear hkk
    by_cases h5 : kk = 5
    · have h5b : (kk == 5) = true := by simp [h5]
      have H5 := Lib.hid h5
      clear h5
      go_wp2_with fail
      go_ret
      refine ⟨S, ns, ?_, HW2.out, S2.out, HSO.out, K2.out.mono (Nat.le_refl _) (fun _ _ h => .inl h), fun i e h => .inl h⟩
      have h9 : t.kind = 5 := HKR0.out.symm.trans (HKK.out.trans H5.out)
      cases t with
      | mk k m l => simp only [Tp.T.kind] at h9; simp [Tp.without, h9]
    · have h5b : (kk == 5) = false := by simp [h5]
      have hlk := im_look HW2.out.st (k := (q : Int)) (by unfold I64; have := HQL.out; have := HBIG.out; omega) true
      cases hS : S (q : Int) with
      | some e =>
        have he : ((e : Int) == 1) = Tp.without 5 t := by
          obtain ⟨r', t', e1, e2, e4⟩ := HSO.out.val _ _ hS
          have e1 : q = r' := by omega
          subst e1
          have e5 : t' = t := e2.det HD.out rfl
          subst e5
          rw [e4]
          cases Tp.without 5 t' <;> rfl
        unfold imV at hlk
        rw [hS] at hlk
        unfold imE at hlk
        simp only [if_true, Option.isSome_some] at hlk
        have HE := Lib.hid he
        clear hS h5 he
        go_wp2_with fail
        go_ret
        exact ⟨S, ns, by rw [← HE.out]; rfl, HW2.out, S2.out, HSO.out, K2.out.mono (Nat.le_refl _) (fun _ _ h => .inl h), fun i e h => .inl h⟩
      | none =>
        unfold imV at hlk
        rw [hS] at hlk
        simp only [if_true, Option.isSome_none] at hlk
        have HS := Lib.hid hS; have H5 := Lib.hid h5
        clear hS h5
        have hki := skids12_any S2.out HR.out (r := r) (by rw [HUR.out]; exact HR.out)
        rw [HKK.out] at hki
        obtain ⟨l, hl⟩ : ∃ l, kidL kk r.c.a r.c.b = l := ⟨_, rfl⟩
        rw [hl] at hki
        obtain ⟨m, hm⟩ : ∃ m, l.length = m := ⟨_, rfl⟩
        have hds := HDS.out
        rw [HKK.out, hl] at hds
        have hkl : t.kids.length = m := hds.len.trans hm
        have hm2 : m ≤ 2 := by rw [← hm, ← hl, kidL_len]; exact ar_le kk
        have HKI := Lib.hid hki; have HDL := Lib.hid hds; have HM := Lib.hid hm; have HKL := Lib.hid hkl; have HM2 := Lib.hid hm2
        clear hki hds hm hkl hm2 hl
        go_wp2_with fail
        refine HKI.out.mono ?_
        clear HKI b0 b3
        rintro e w3 ⟨a3, c3, rfl, hir, hsv, hk⟩
        rw [HM.out]
        have hwk := HW2.out.kp S2.out (hk.mono (Nat.le_refl _) (fun _ _ h => .inr h))
        have HW3 := Lib.hid hwk; have S3 := Lib.hid hsv; have K3 := Lib.hid (K2.out.trans (hk.mono K2.out.size (fun _ _ h => h))); have HIR := Lib.hid hir; have HZ32 := Lib.hid hk.size
        clear hwk hsv hk hir hlk
        go_wp2_with fail
        go_loopg [8, 10, 43] m (fun gk v8 v10 v43 wr => ∃ (j : Nat) (Sj : IMap) (nj : Nat), j ≤ m ∧ v43 = .int .i64 (j : Int) ∧ v8 = .int .i64 (knw t.kids j) ∧ WK Bs b s oa oc mb mc nd nj wr P D Sj ∧ SV Bv s g cap L C K wr H ∧ SOk H Sj nj ∧ Kp w.heap.size (fun k => k = g ∨ k = mc) w wr ∧ IRow w2.heap.size l wr a3 ∧ w3.heap.size ≤ wr.heap.size ∧ (∀ i e, Sj i = some e → S i = some e ∨ ∃ (r : Nat) (u : T), i = (r : Int) ∧ Den H u r ∧ rootOf H r = r ∧ Tp.size u < Tp.size t) ∧ gk = m - j)
        case atStart => exact ⟨0, S, ns, Nat.zero_le _, rfl, rfl, HW3.out, S3.out, HSO.out, K3.out.mono (Nat.le_refl _) (fun _ _ h => .inl h), HIR.out, Nat.le_refl _, fun i e h => .inl h, rfl⟩
        case round =>
        obtain ⟨j, Sj, nj, hjm, rfl, rfl, hwk, hsv, hso, hk, hir, hzr, hnew, rfl⟩ := hrel
        have b0 : wr.cell? ⟨b, 0, none⟩ = some (.pointer (some ⟨s, 0, none⟩)) := cell_box hwk.box rfl rfl
        have b3 : wr.cell? ⟨b, 3, none⟩ = some (.map (some mc)) := cell_box hwk.box rfl rfl
        have HWK' := Lib.hid hwk; have HSV' := Lib.hid hsv; have HSO' := Lib.hid hso; have HKR := Lib.hid hk; have HIR' := Lib.hid hir; have HZR := Lib.hid hzr; have HNEW := Lib.hid hnew
        clear hwk hsv hso hk hir hzr hnew
        by_cases hlt : j < m
        · have hjl : j < l.length := by rw [HM.out]; exact hlt
          have hjk : j < t.kids.length := by rw [HKL.out]; exact hlt
          obtain ⟨x, hx, hxd⟩ := HDL.out.get j hjk hjl
          obtain ⟨bq, oq, rfl, hcx⟩ := HIR'.out.1 j hjl
          rw [hx] at hcx
          have hxs : Tp.size t.kids[j] < Tp.size t := kid_size t _ (List.getElem_mem hjk)
          have hcall := IH.out t.kids[j] x Sj nj wr (by have := HN.out; omega) hxd HWK'.out HSV'.out HSO'.out
          obtain ⟨p1, p2⟩ := pt_int hlt
          obtain ⟨bb, hbb⟩ : ∃ bb, Tp.without 5 t.kids[j] = bb := ⟨_, rfl⟩
          have hkn : knw t.kids (j + 1) = if bb = true then knw t.kids j else 0 := by
            unfold knw
            rw [withouts_take 5 t.kids j hjk, hbb]
            cases bb <;> simp
          have HCALL := Lib.hid hcall; have HXS := Lib.hid hxs; have HKN := Lib.hid hkn; have HBB := Lib.hid hbb
          clear hcall hxs hkn hbb hx hxd
          go_wp2_with fail
          refine HCALL.out.mono ?_
          clear HCALL b0 b3 hcx
          rintro e w4 ⟨S5, n5, rfl, hwk, hsv, hso, hk, hnew⟩
          rw [HBB.out]
          have hz4 := hk.size; have hzr := HZR.out; have hz3 := K3.out.size; have hf2 := S2.out.far
          have hmc := (HW2.out.lt (i := mc) (.inr (.inr (.inl rfl)))).2
          have hz32 : w2.heap.size ≤ w3.heap.size := HZ32.out
          have hir4 := HIR'.out.keep (w' := w4) (fun b' h1 h2 => hk.block b' h2 (by omega)) hz4
          have HWK4 := Lib.hid hwk; have HSV4 := Lib.hid hsv; have HSO4 := Lib.hid hso; have HK4 := Lib.hid (HKR.out.trans (hk.mono HKR.out.size (fun _ _ h => h))); have HIR4 := Lib.hid hir4; have HZ4 := Lib.hid (Nat.le_trans hzr hz4)
          have HNEW4 := Lib.hid (show ∀ i e, S5 i = some e → S i = some e ∨ ∃ (r : Nat) (u : T), i = (r : Int) ∧ Den H u r ∧ rootOf H r = r ∧ Tp.size u < Tp.size t from fun i e h => by
            rcases hnew i e h with h | ⟨r', u, e1, e2, e3, e4⟩
            · exact HNEW.out i e h
            · exact .inr ⟨r', u, e1, e2, e3, Nat.lt_of_le_of_lt e4 HXS.out⟩)
          clear hwk hsv hso hk hnew hz4 hzr hz3 hf2 hmc hz32 hir4
          cases bb with
          | true =>
            go_wp2_with fail
            go_roundg (m - (j + 1))
            case measure => omega
            case rel => exact ⟨j + 1, S5, n5, hlt, by rw [show wrap64 ((j : Int) + 1) = ((j + 1 : Nat) : Int) from by have := HM2.out; unfold wrap64; omega], by rw [HKN.out]; simp, HWK4.out, HSV4.out, HSO4.out, HK4.out, HIR4.out, HZ4.out, HNEW4.out, rfl⟩
          | false =>
            go_wp2_with fail
            go_roundg (m - (j + 1))
            case measure => omega
            case rel => exact ⟨j + 1, S5, n5, hlt, by rw [show wrap64 ((j : Int) + 1) = ((j + 1 : Nat) : Int) from by have := HM2.out; unfold wrap64; omega], by rw [HKN.out]; simp, HWK4.out, HSV4.out, HSO4.out, HK4.out, HIR4.out, HZ4.out, HNEW4.out, rfl⟩
        · obtain rfl : j = m := by omega
          have hno : Sj (q : Int) = none := by
            cases hx : Sj (q : Int) with
            | none => rfl
            | some e =>
              rcases HNEW.out _ _ hx with h | ⟨r', u, e1, e2, _, e4⟩
              · rw [HS.out] at h; cases h
              · have e1 : q = r' := by omega
                subst e1
                have : u = t := e2.det HD.out rfl
                subst this; omega
          obtain ⟨wb, hwb⟩ : ∃ wb, Tp.without 5 t = wb := ⟨_, rfl⟩
          obtain ⟨e0, he0⟩ : ∃ e0 : Nat, (if wb = true then 1 else 0) = e0 := ⟨_, rfl⟩
          have hk5 : t.kind ≠ 5 := fun e => H5.out (HKK.out.symm.trans (HKR0.out.trans e))
          have hkn : knw t.kids j = (e0 : Int) := by
            unfold knw
            rw [List.take_of_length_le (by rw [HKL.out]; exact Nat.le_refl _), ← without_kids5 hk5, hwb, ← he0]
            cases wb <;> rfl
          have heb : ((e0 : Int) == 1) = wb := by rw [← he0]; cases wb <;> rfl
          rw [hkn]
          obtain ⟨W9, hrun, him, hgr⟩ := im_put HWK'.out.st (k := (q : Int)) (by unfold I64; have := HQL.out; have := HBIG.out; omega) e0 (by have := HSO'.out.le; have := HBIG.out; omega) hno
          unfold imE at hrun
          have HIM := Lib.hid him; have HGR := Lib.hid hgr; have HNO := Lib.hid hno; have HWB := Lib.hid hwb; have HE0 := Lib.hid he0; have HEB := Lib.hid heb
          clear him hgr hno hwb he0 hk5 hkn heb
          go_wp2_with fail
          go_ret
          have hwk := HWK'.out
          have ho := hwk.own
          have far : ∀ i, i < wr.heap.size → i ≠ mc → W9.heap[i]? = wr.heap[i]? := fun i h1 h2 => HGR.out.block i h1 (fun e => by injection e with e; exact h2 e)
          have hsf := HSV'.out.far
          have hmk : ∀ i, i = s ∨ i = g → i ≠ mc := fun i hi e => by have := hwk.apart HSV'.out (i := mc) (.inr (.inr (.inl rfl))); omega
          refine ⟨_, nj + 1, by rw [HWB.out, ← HEB.out]; rfl, ⟨(far b (hwk.lt (.inl rfl)).2 ho.2.1).trans hwk.box, own_same hwk.row (fun i hi => far i (hwk.row.lt i hi).2 (ho.2.2.2 i hi).2.2), hwk.dn.same (far mb (hwk.lt (.inr (.inl rfl))).2 ho.2.2.1), HIM.out, hwk.lb, hwk.lm, hwk.lc, hwk.ne⟩, HSV'.out.same (far s hsf.2.2.1 (hmk s (.inl rfl))) (far g hsf.2.1 (hmk g (.inr rfl))), ?_, ?_, ?_⟩
          · rw [← HE0.out, ← HWB.out]; exact HSO'.out.put HD.out HNO.out
          · exact HKR.out.grown HGR.out HKR.out.size (fun i hi => .inr (.inr (by injection hi with hi; exact hi.symm)))
          · intro i e h
            unfold imPut at h
            split at h
            · rename_i hi
              exact .inr ⟨q, t, hi, HD.out, HRT.out, Nat.le_refl _⟩
            · rcases HNEW.out i e h with h | ⟨r', u, e1, e2, e3, e4⟩
              · exact .inl h
              · exact .inr ⟨r', u, e1, e2, e3, Nat.le_of_lt e4⟩
end
end Go.Proofs.Yteolbbgnkbcfmaa
