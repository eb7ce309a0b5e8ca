/- store.walk: all roots within a node, each once, kids first. -/
import Derived.Test.YtaaapdfdedknfaaStJ
import Derived.Test.YtaaapdfdedknfaaStK
import Derived.RangeFuncNested
import Derived.RangeFuncBound
import Derived.RangeFuncCalls
import Derived.RangeFuncLeaves
import Derived.Shelf.Abstract
import Derived.Shelf.RegionOpen
import Derived.WalkKit
import Derived.OwnWalkIn
import Derived.TacticsInMore
import Derived.LoopNIn
import Derived.LoopIn
namespace Go.Proofs.Ytaaapdfdedknfaa
open Go Go.RowKit Go.Shelf
open Tp (T)
open Sg (Of Rt Den Dens Alk Mkd trav travs rootOf kidsOf)
attribute [local go_sem] Oper.semAt_some
theorem yield_depth {m : Nat} (m' : Nat) {P : Program} {l : Nat} {args : Array Value} {W : World} {R : Ending → World → Prop} (h : YieldAt Fence.wide m P l args W R) : YieldAt Fence.wide m' P l args W R := by
  obtain ⟨fn, tmps, assign, body, hy, hR⟩ := h
  exact ⟨fn, tmps, assign, body, hy, hR.1, fun c cs _ => hR.2 c cs (fun d h => by cases h)⟩
theorem Kp.turns {M : Nat → Prop} {a b : World} (h : Kp a.heap.size M a b) : Turns M a b := ⟨h.os, h.tape, h.output, h.size, h.block⟩
theorem below_turns {M : Nat → Prop} {a b : World} (h : Below a.heap.size a b) : Turns M a b := ⟨h.os, h.tape, h.output, h.size, fun k hk _ => h.block k hk⟩
/-- What a round knows of the root that it is handed. -/
def RndP (N0 : Nat) (H0 : List SNd) (F Y : List Nat) (r : Nat) : Prop := ∃ d t, H0[r]? = some d ∧ d.up = r ∧ Den H0 t r ∧ (∀ x ∈ kidsOf H0 r, rootOf H0 x.toNat ∈ Y) ∧ Y.length < N0 ∧ Tp.size t ≤ N0 ∧ r ∈ F
def WkP (B s g cap : Nat) (L C K : Int) (H0 : List SNd) (P : Nat → Prop) (J Jx : List Nat → World → Prop) (Y : List Nat) (e : Ending) (w' : World) : Prop :=
  ∃ H', Alk H0 H' ∧ SV B s g cap L C K w' H' ∧ ((e = .returned (.bool true) ∧ Mkd K (fun i => i ∈ Y ∨ P i) H' ∧ J Y w') ∨ (e = .returned (.bool false) ∧ (∀ d ∈ H', d.c.met ≤ K) ∧ ∃ Y', Jx Y' w'))
theorem kid_size (t : T) (x : T) (h : x ∈ t.kids) : Tp.size x < Tp.size t := by
  cases t with
  | mk k m l =>
    have key : ∀ l : List T, x ∈ l → Tp.size x ≤ Tp.sizes l := fun l => by
      induction l with
      | nil => intro h; cases h
      | cons y r ih =>
        intro h
        simp only [Tp.sizes]
        rcases List.mem_cons.1 h with rfl | h
        · omega
        · have := ih h; omega
    have := key l h
    simp only [Tp.size]; omega
mutual
theorem trav_len {H : List SNd} : ∀ (t : T) (p : Nat) (Y : List Nat), (trav H t p Y).length ≤ Y.length + Tp.size t
  | .mk k m l, p, Y => by
    by_cases h : rootOf H p ∈ Y
    · rw [Sg.trav_in h]; omega
    · rw [Sg.trav_out h, List.length_append, List.length_singleton]
      have := travs_len (H := H) l (kidsOf H (rootOf H p)) Y
      simp only [Tp.size, Tp.T.kids]; omega
theorem travs_len {H : List SNd} : ∀ (l : List T) (xs : List Int) (Y : List Nat), (travs H l xs Y).length ≤ Y.length + Tp.sizes l
  | [], _, Y => by simp [travs]
  | _ :: _, [], Y => by simp [travs]
  | t :: ts, x :: xs, Y => by
    simp only [travs, Tp.sizes]
    have h1 := trav_len (H := H) t x.toNat Y
    have h2 := travs_len (H := H) ts xs (trav H t x.toNat Y)
    omega
end
theorem sizes_take12 (l : List T) (k : Nat) (h : k < l.length) : Tp.sizes (l.take k) + Tp.size l[k] ≤ Tp.sizes l := by
  induction l generalizing k with
  | nil => simp at h
  | cons t r ih =>
    cases k with
    | zero => simp [Tp.sizes]
    | succ k =>
      have := ih k (by simpa using h)
      simp only [List.take_succ_cons, Tp.sizes, List.getElem_cons_succ]
      omega
theorem size_kids12 (t : T) : Tp.size t = Tp.sizes t.kids + 1 := by cases t; simp [Tp.size, Tp.T.kids, Nat.add_comm]
theorem travs_take_len {H : List SNd} (l : List T) (xs : List Int) (Y : List Nat) (h : l.length = xs.length) (k : Nat) (hk : k = xs.length) : travs H (l.take k) (xs.take k) Y = travs H l xs Y := by
  rw [List.take_of_length_le (by omega), List.take_of_length_le (by omega)]
theorem travs_mem {H : List SNd} : ∀ (l : List T) (xs : List Int) (Y : List Nat), l.length = xs.length → ∀ x ∈ xs, rootOf H x.toNat ∈ travs H l xs Y
  | [], [], _, _, _, h => by cases h
  | [], _ :: _, _, h, _, _ => by simp at h
  | _ :: _, [], _, h, _, _ => by simp at h
  | t :: ts, x :: xs, Y, h, z, hz => by
    simp only [travs]
    rcases List.mem_cons.1 hz with rfl | hz
    · obtain ⟨Z, hZ⟩ := Sg.travs_pre (H := H) ts xs (trav H t z.toNat Y)
      rw [hZ]; exact List.mem_append_left _ (Sg.trav_mem t z.toNat Y)
    · exact travs_mem ts xs _ (by simpa using h) z hz
theorem travs_pre_take {H : List SNd} : ∀ (l : List T) (xs : List Int) (Y : List Nat) (k : Nat), l.length = xs.length → ∃ Z, travs H l xs Y = travs H (l.take k) (xs.take k) Y ++ Z
  | [], [], Y, k, _ => ⟨[], by simp [travs]⟩
  | [], _ :: _, _, _, h => by simp at h
  | _ :: _, [], _, _, h => by simp at h
  | t :: ts, x :: xs, Y, 0, _ => by
    obtain ⟨Z, hZ⟩ := Sg.travs_pre (H := H) (t :: ts) (x :: xs) Y
    exact ⟨Z, by rw [hZ]; simp [travs]⟩
  | t :: ts, x :: xs, Y, k + 1, h => by
    obtain ⟨Z, hZ⟩ := travs_pre_take (H := H) ts xs (trav H t x.toNat Y) k (by simpa using h)
    exact ⟨Z, by simpa [travs] using hZ⟩
section
variable {B s g cap : Nat} {L C K : Int}
theorem SV.kid {w : World} {H : List SNd} (h : SV B s g cap L C K w H) {q : Nat} {d : SNd} (hd : H[q]? = some d) (k : Nat) (hk : k < (kidL d.c.kind d.c.a d.c.b).length) : w.cell? ⟨g, q * 6 + 2 + k, none⟩ = some (.int .i64 (kidL d.c.kind d.c.a d.c.b)[k]) := by
  obtain ⟨_, _, c2, c3, _⟩ := h.node hd
  have h2 : k < 2 := by rw [kidL_len] at hk; have := ar_le d.c.kind; omega
  match k, h2 with
  | 0, _ => rw [show (kidL d.c.kind d.c.a d.c.b)[0] = d.c.a by simp [kidL]]; exact c2
  | 1, _ => rw [show (kidL d.c.kind d.c.a d.c.b)[1] = d.c.b by simp [kidL]]; exact c3
set_option maxRecDepth 100000 in
set_option maxHeartbeats 8000000 in
theorem walk12_any (N0 : Nat) (l : Nat) (J Jx : List Nat → World → Prop) (H0 : List SNd) (F : List Nat)
    (hJ : ∀ Y A D, J Y A → Turns (fun k => k = s ∨ k = g) A D → J Y D)
    (hY : ∀ Y r H W, J Y W → SV B s g cap L C K W H → Alk H0 H → (∀ d ∈ H, d.c.met ≤ K) → RndP N0 H0 F Y r → YieldAt Fence.wide 8 Try.prog l #[.int .i64 (r : Int)] W fun e W' =>
      (e = .returned (.bool true) ∧ J (Y ++ [r]) W' ∧ SV B s g cap L C K W' H) ∨ (e = .returned (.bool false) ∧ Jx (Y ++ [r]) W' ∧ SV B s g cap L C K W' H)) :
    ∀ (n : Nat) (t : T) (p : Nat) (Y : List Nat) (P : Nat → Prop) (H : List SNd) (w : World), Tp.size t ≤ n → Y.length + Tp.size t ≤ N0 → Den H0 t p → Alk H0 H → SV B s g cap L C K w H → Mkd K (fun i => i ∈ Y ∨ P i) H →
      (∀ i u, P i → Den H0 u i → rootOf H0 i = i → Tp.size t < Tp.size u) → (∀ i, P i → rootOf H0 i = i) → J Y w → (∃ Z, F = trav H0 t p Y ++ Z) →
      Calls Try.prog 123 #[.pointer (some ⟨s, 0, none⟩), .int .i64 (p : Int), .func (.yield l) #[] #[]] w (WkP B s g cap L C K H0 P J Jx (trav H0 t p Y)) := by
  intro n
  induction n with
  | zero => intro t p Y P H w h; have := Tp.size_pos t; omega
  | succ n ih =>
    intro t p Y P H w hn hN0 hD hA hsv hM hP hPr hj hF0
    obtain ⟨d0, r0, hd0, hr0, hu0, hk0, -, hds⟩ := hD.open
    obtain ⟨d, hd, ed, _⟩ := hA.get hd0
    obtain ⟨r, hr, er, ek, _, ea, eb⟩ := hA.get hr0
    have hrt : rootOf H0 p = d0.up := by unfold rootOf; rw [hd0]
    obtain ⟨q, hq⟩ : ∃ q, d0.up = q := ⟨_, rfl⟩
    rw [hq] at hrt hr hr0 hu0
    have hroot := root12_any hsv hd
    rw [ed, hq] at hroot
    have hql : q < H.length := (List.getElem?_eq_some_iff.1 hr).1
    obtain ⟨q0, q1⟩ := pt_int hql
    have hrq : rootOf H0 q = q := by unfold rootOf; rw [hr0]; exact hu0
    have hDq : Den H0 t q := by have := hD.root.1; rwa [hrt] at this
    have hpq : ¬ P q := fun h => by have := hP q t h hDq hrq; omega
    have hmk := hM q r hr
    have HRT := Lib.hid hroot; have HSV := Lib.hid hsv; have HM := Lib.hid hM; have HA := Lib.hid hA; have HD := Lib.hid hD; have HJ := Lib.hid hJ; have HY := Lib.hid hY; have HR := Lib.hid hr; have HR0 := Lib.hid hr0; have HDS := Lib.hid hds; have HQ := Lib.hid hrt; have HP := Lib.hid hP; have HPR := Lib.hid hPr; have HJY := Lib.hid hj; have HDQ := Lib.hid hDq; have HRQ := Lib.hid hrq; have HPQ := Lib.hid hpq; have HMK := Lib.hid hmk; have IH := Lib.hid ih; have HN := Lib.hid hn; have HN0 := Lib.hid hN0; have HF0 := Lib.hid hF0; have EK := Lib.hid ek; have EA := Lib.hid ea; have EB := Lib.hid eb; have HK0 := Lib.hid hk0; have HU0 := Lib.hid hu0; have HER := Lib.hid er
    clear hroot hsv hM hA hD hJ hY hr hr0 hds hrt hP hPr hj hF0 hDq hrq hpq hmk ih hn hN0 hd0 hd ed ek ea eb hk0 hu0 er hq hql
    go_enter Try.func123, Try.ntmps123
    go_upto_region 1 with fail
    go_wp2_with fail
    refine HRT.out.mono ?_
    rintro e w1 ⟨rfl, hsv1, hk1⟩
    obtain ⟨c0, c1, c2, c3⟩ := hsv1.sbox
    have cm := (hsv1.node HR.out).2.2.2.2
    have HSV1 := Lib.hid hsv1; have HK1 := Lib.hid hk1
    have hj1 := HJ.out Y w w1 HJY.out ((Kp.turns hk1).mono fun _ _ h => .inr h)
    have HJ1 := Lib.hid hj1
    clear hsv1 hk1 hj1
    go_upto_region 2 with fail
    obtain ⟨met, hmet⟩ : ∃ m, r.c.met = m := ⟨_, rfl⟩
    rw [hmet] at cm
    have HMET := Lib.hid hmet
    clear hmet
    go_cut [25] from 13 (fun v wx => v = .bool (met == K) ∧ Below w1.heap.size w1 wx)
    case first =>
      by_cases hmk : met = K
      · have hmb : (met == K) = true := by simp [hmk]
        go_quiet (fail)
        go_wp2_with fail
        go_meet
        case rel => exact ⟨by rw [hmb], ⟨rfl, rfl, rfl, Nat.le_refl _, fun _ _ => rfl⟩⟩
      · have hmb : (met == K) = false := by simp [hmk]
        go_quiet (fail)
        go_wp2_with fail
        go_meet
        case rel => exact ⟨by rw [hmb], ⟨rfl, rfl, rfl, Nat.le_refl _, fun _ _ => rfl⟩⟩
    case rest =>
    obtain ⟨rfl, hbc⟩ := hcut
    obtain ⟨w2, hw2⟩ : ∃ q, wc = q := ⟨_, rfl⟩
    rw [hw2] at hbc ⊢
    clear hw2 wc
    have HSV2 := Lib.hid (HSV1.out.below hbc)
    have HJ2 := Lib.hid (HJ.out Y w1 w2 HJ1.out (below_turns hbc))
    clear hbc c0 c1 c2 c3 cm
    by_cases hmk : met = K
    · have hmb : (met == K) = true := by simp [hmk]
      have HIN := Lib.hid (show q ∈ Y from (HMK.out.2.1 (HMET.out.trans hmk)).resolve_right HPQ.out)
      rw [hmb]
      clear hmk
      go_wp2_with fail
      go_ret
      refine ⟨H, HA.out, HSV2.out, .inl ⟨rfl, ?_, ?_⟩⟩
      · exact HM.out.iff fun i => by rw [Sg.trav_in (by rw [HQ.out]; exact HIN.out)]
      · rw [Sg.trav_in (by rw [HQ.out]; exact HIN.out)]; exact HJ2.out
    · have hmb : (met == K) = false := by simp [hmk]
      have HNI := Lib.hid (show ¬ q ∈ Y from fun h => hmk (HMET.out.symm.trans (HMK.out.2.2 (.inl h))))
      rw [hmb]
      clear hmk hmb
      obtain ⟨c0, c1, c2, c3⟩ := HSV2.out.sbox
      have cm := (HSV2.out.node HR.out).2.2.2.2
      have fm : w2.frozen? ⟨g, q * 6 + 5, none⟩ = false := HSV2.out.thaw _
      go_upto_region 4 with fail
      go_cut [36] from 26 (fun _ wx => Below (w2.setCell ⟨g, q * 6 + 5, none⟩ (.int .i64 K)).heap.size (w2.setCell ⟨g, q * 6 + 5, none⟩ (.int .i64 K)) wx)
      case first =>
        go_region_law (fail)
        all_goals
          go_wp2_with fail
          go_meet
          case rel => exact ⟨rfl, rfl, rfl, Nat.le_refl _, fun _ _ => rfl⟩
      case rest =>
      have hsv3 := (HSV2.out.say HR.out { r.c with met := K } (.int .i64 K) (by omega) (fun u => rfl) : SV B s g cap L C K (w2.setCell ⟨g, q * 6 + 5, none⟩ (.int .i64 K)) (H.set q { r with c := { r.c with met := K } }))
      have hj3 := HJ.out Y w2 _ HJ2.out (Turns.setCell w2 ⟨g, q * 6 + 5, none⟩ (.int .i64 K) (.inr rfl))
      have hsv4 := hsv3.below hcut
      have hj4 := HJ.out Y _ _ hj3 (below_turns hcut)
      have hm4 := HM.out.set HR.out
      have ha4 := HA.out.trans (Alk.mark HR.out K)
      have hr4 : (H.set q { r with c := { r.c with met := K } })[q]? = some { r with c := { r.c with met := K } } := Sg.set_same HR.out
      obtain ⟨H4, hH4⟩ : ∃ x, H.set q { r with c := { r.c with met := K } } = x := ⟨_, rfl⟩
      obtain ⟨r4, hr4'⟩ : ∃ x : SNd, { r with c := { r.c with met := K } } = x := ⟨_, rfl⟩
      have e4 : r4.c.kind = r0.c.kind ∧ r4.c.a = r0.c.a ∧ r4.c.b = r0.c.b := by rw [← hr4']; exact ⟨EK.out, EA.out, EB.out⟩
      rw [hH4] at hsv4 hm4 ha4 hr4
      rw [hr4'] at hr4
      obtain ⟨w4, hw4⟩ : ∃ x, wc = x := ⟨_, rfl⟩
      rw [hw4] at hsv4 hj4 ⊢
      have hkd := kids12_any hsv4 hr4
      have hks : kidsOf H0 q = kidL r4.c.kind r4.c.a r4.c.b := by unfold kidsOf; rw [HR0.out]; show kidL r0.c.kind r0.c.a r0.c.b = _; rw [e4.1, e4.2.1, e4.2.2]
      have hdk : Dens H0 t.kids (kidsOf H0 q) := by rw [hks, e4.1, e4.2.1, e4.2.2]; exact HDS.out
      obtain ⟨ks, hks'⟩ : ∃ x, kidsOf H0 q = x := ⟨_, rfl⟩
      rw [hks'] at hks hdk
      have hlk : ks.length = ar r4.c.kind := by rw [hks, kidL_len]
      obtain ⟨m, hm⟩ : ∃ x, ar r4.c.kind = x := ⟨_, rfl⟩
      rw [hm] at hkd hlk
      have hm2 : m ≤ 2 := by rw [← hm]; exact ar_le _
      have HSV4 := Lib.hid hsv4; have HJ4 := Lib.hid hj4; have HM4 := Lib.hid hm4; have HA4 := Lib.hid ha4; have HR4 := Lib.hid hr4; have HKD := Lib.hid hkd; have HKS := Lib.hid hks; have HDK := Lib.hid hdk; have HLK := Lib.hid hlk; have HM2 := Lib.hid hm2; have HKO := Lib.hid hks'; have HDL := Lib.hid (hdk.len.trans hlk)
      have HTR := Lib.hid (show trav H0 t p Y = travs H0 t.kids ks Y ++ [q] by rw [Sg.trav_out (by rw [HQ.out]; exact HNI.out), HQ.out, hks'])
      clear hsv3 hj3 hsv4 hj4 hm4 ha4 hr4 hkd hks hdk hlk hm hm2 hks' e4 hH4 hr4' hw4 hcut c0 c1 c2 c3 cm fm
      clear wc
      go_upto_region 5 with fail
      go_wp2_with fail
      refine HKD.out.mono ?_
      rintro e w5 ⟨rfl, hb5⟩
      have HSV5 := Lib.hid (HSV4.out.below hb5)
      have HJ5 := Lib.hid (HJ.out Y w4 w5 HJ4.out (below_turns hb5))
      clear hb5
      go_wp2_with fail
      go_loopg [41] m (fun gk v wr => ∃ (k : Nat) (Hk : List SNd), k ≤ m ∧ v = .int .i64 (k : Int) ∧ Alk H0 Hk ∧ SV B s g cap L C K wr Hk ∧ Mkd K (fun i => i ∈ travs H0 (t.kids.take k) (ks.take k) Y ∨ (P i ∨ i = q)) Hk ∧ J (travs H0 (t.kids.take k) (ks.take k) Y) wr ∧ gk = m - k)
      case atStart =>
        refine ⟨0, H4, Nat.zero_le _, rfl, HA4.out, HSV5.out, ?_, ?_, rfl⟩
        · exact HM4.out.iff fun i => by simp [travs, or_assoc]
        · simpa [travs] using HJ5.out
      case round =>
        obtain ⟨k, Hk, hkm, rfl, hA, hsv, hM, hj, rfl⟩ := hrel
        have HAK := Lib.hid hA; have HSVK := Lib.hid hsv; have HMK2 := Lib.hid hM; have HJK := Lib.hid hj
        clear hA hsv hM hj
        by_cases hlt : k < m
        · have hkk : k < ks.length := by rw [HLK.out]; exact hlt
          have hkt : k < t.kids.length := by rw [HDL.out]; exact hlt
          obtain ⟨x, hx, hdx⟩ := HDK.out.get k hkt hkk
          obtain ⟨rk, hrk, _, e1, _, e3, e4⟩ := (HA4.out.symm.trans HAK.out).get HR4.out
          have hkl : kidL rk.c.kind rk.c.a rk.c.b = ks := by rw [e1, e3, e4]; exact HKS.out.symm
          have hck := HSVK.out.kid hrk k (by rw [hkl]; exact hkk)
          simp only [hkl, hx] at hck
          obtain ⟨i1, i2⟩ := pt_int hlt
          have hsz : Tp.size t.kids[k] < Tp.size t := kid_size t _ (List.getElem_mem hkt)
          have hyl : (travs H0 (t.kids.take k) (ks.take k) Y).length + Tp.size t.kids[k] ≤ N0 := by
            have h1 := travs_len (H := H0) (t.kids.take k) (ks.take k) Y
            have h2 := sizes_take12 t.kids k hkt
            have h3 := size_kids12 t
            have := HN0.out
            omega
          have hrec := IH.out t.kids[k] x (travs H0 (t.kids.take k) (ks.take k) Y) (fun i => P i ∨ i = q) Hk wr (by have := HN.out; omega) hyl hdx HAK.out HSVK.out HMK2.out (fun i u hi hu he => by
            rcases hi with hi | rfl
            · have := HP.out i u hi hu he; omega
            · have := Den.det hu HDQ.out rfl; subst this; exact hsz) (fun i hi => by
            rcases hi with hi | rfl
            · exact HPR.out i hi
            · exact HRQ.out) HJK.out (by
            obtain ⟨Z0, hZ0⟩ := HF0.out
            obtain ⟨Z1, hZ1⟩ := travs_pre_take (H := H0) t.kids ks Y (k + 1) (HDL.out.trans HLK.out.symm)
            have htk := Sg.travs_take (H := H0) t.kids ks Y k hkt hkk
            rw [hx, Int.toNat_natCast] at htk
            exact ⟨Z1 ++ [q] ++ Z0, by rw [hZ0, HTR.out, hZ1, htk]; simp [List.append_assoc]⟩)
          have htk := Sg.travs_take (H := H0) t.kids ks Y k hkt hkk
          rw [hx, Int.toNat_natCast] at htk
          rw [← htk] at hrec
          have HREC := Lib.hid hrec
          clear hrec htk hdx hrk e1 e3 e4 hkl hx hsz hyl hkt
          go_wp2_with fail
          refine HREC.out.mono ?_
          rintro e w6 ⟨H6, hA6, hsv6, (⟨rfl, hM6, hj6⟩ | ⟨rfl, hM6, hj6⟩)⟩
          · have HA6 := Lib.hid hA6; have HSV6 := Lib.hid hsv6; have HM6 := Lib.hid hM6; have HJ6 := Lib.hid hj6
            clear hA6 hsv6 hM6 hj6
            go_wp2_with fail
            go_roundg (m - (k + 1))
            case measure => omega
            case rel => exact ⟨k + 1, H6, hlt, by rw [wrapS (k := k) (by have := HM2.out; unfold maxLen; omega)], HA6.out, HSV6.out, HM6.out, HJ6.out, rfl⟩
          · have HA6 := Lib.hid hA6; have HSV6 := Lib.hid hsv6; have HM6 := Lib.hid hM6; have HJ6 := Lib.hid hj6
            clear hA6 hsv6 hM6 hj6
            go_wp2_with fail
            go_ret
            exact ⟨H6, HA6.out, HSV6.out, .inr ⟨rfl, HM6.out, HJ6.out⟩⟩
        · obtain rfl : k = m := by omega
          have hall := travs_take_len (H := H0) t.kids ks Y (HDL.out.trans HLK.out.symm) k HLK.out.symm
          have hj9 := HJK.out
          have hM9 := HMK2.out
          rw [hall] at hj9 hM9
          have hrnd : RndP N0 H0 F (travs H0 t.kids ks Y) q := ⟨r0, t, HR0.out, HU0.out, HDQ.out, fun x hx => travs_mem t.kids ks Y (HDL.out.trans HLK.out.symm) x (by rw [← HKO.out]; exact hx), by have h1 := travs_len (H := H0) t.kids ks Y; have h3 := size_kids12 t; have := HN0.out; omega, by have := HN0.out; omega, by obtain ⟨Z0, hZ0⟩ := HF0.out; rw [hZ0, HTR.out]; simp⟩
          obtain ⟨fn, tmps, assign, body, hy, hRd⟩ := yield_depth 8 (HY.out _ q Hk wr hj9 HSVK.out HAK.out hM9.le hrnd)
          have HM9 := Lib.hid hM9
          clear hall hj9 hM9 hrnd
          go_upto_region 11 with fail
          refine (wpIn_wide (n := 9)).1 ?_
          gi_wp2
          refine hRd.mono ?_
          rintro e w7 (⟨rfl, hj7, hsv7⟩ | ⟨rfl, hj7, hsv7⟩)
          · gi_wp2
            go_wp2_with fail
            go_ret
            exact ⟨Hk, HAK.out, hsv7, .inl ⟨rfl, HM9.out.iff fun i => (by rw [HTR.out, List.mem_append, List.mem_singleton]; exact ⟨fun h => h.elim (fun a => .inl (.inl a)) (fun h => h.elim .inr (fun e => .inl (.inr e))), fun h => h.elim (fun h => h.elim .inl (fun e => .inr (.inr e))) (fun p => .inr (.inl p))⟩), by rw [HTR.out]; exact hj7⟩⟩
          · gi_wp2
            go_wp2_with fail
            go_ret
            exact ⟨Hk, HAK.out, hsv7, .inr ⟨rfl, HM9.out.le, _, hj7⟩⟩
end
end Go.Proofs.Ytaaapdfdedknfaa
