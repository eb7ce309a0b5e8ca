/- store.walk: all roots within a node, each once, kids first. store.roots: its iterator. store.Vars: the variables within a node. slices.Contains over a row of numbers; store.lower. store.Link. -/
import Derived.Test.YteolbbgnkbcfmaaStJ
import Derived.Test.YteolbbgnkbcfmaaStK
import Derived.RangeFuncNested
import Derived.RangeFuncBound
import Derived.RangeFuncCalls
import Derived.RangeFuncLeaves
import Derived.Shelf.Abstract
import Derived.Shelf.RegionOpen
import Derived.WalkKit
import Derived.OwnWalkIn
import Derived.TacticsInMore
import Derived.LoopNIn
import Derived.LoopIn
namespace Go.Proofs.Yteolbbgnkbcfmaa
open Go Go.RowKit Go.Shelf
open Tp (T)
open Sg (Of Rt Den Dens Alk Mkd trav travs rootOf kidsOf)
attribute [local go_sem] Oper.semAt_some
theorem yield_depth {m : Nat} (m' : Nat) {P : Program} {l : Nat} {args : Array Value} {W : World} {R : Ending → World → Prop} (h : YieldAt Fence.wide m P l args W R) : YieldAt Fence.wide m' P l args W R := by
  obtain ⟨fn, tmps, assign, body, hy, hR⟩ := h
  exact ⟨fn, tmps, assign, body, hy, hR.1, fun c cs _ => hR.2 c cs (fun d h => by cases h)⟩
theorem Kp.turns {M : Nat → Prop} {a b : World} (h : Kp a.heap.size M a b) : Turns M a b := ⟨h.os, h.tape, h.output, h.size, h.block⟩
theorem below_turns {M : Nat → Prop} {a b : World} (h : Below a.heap.size a b) : Turns M a b := ⟨h.os, h.tape, h.output, h.size, fun k hk _ => h.block k hk⟩
/-- What a round knows of the root that it is handed. -/
def RndP (N0 : Nat) (H0 : List SNd) (F Y : List Nat) (r : Nat) : Prop := ∃ d t, H0[r]? = some d ∧ d.up = r ∧ Den H0 t r ∧ (∀ x ∈ kidsOf H0 r, rootOf H0 x.toNat ∈ Y) ∧ Y.length < N0 ∧ Tp.size t ≤ N0 ∧ ∃ Z, F = Y ++ r :: Z
def WkP (B s g cap : Nat) (L C K : Int) (H0 : List SNd) (P : Nat → Prop) (J Jx : List Nat → World → Prop) (Y : List Nat) (e : Ending) (w' : World) : Prop :=
  ∃ H', Alk H0 H' ∧ SV B s g cap L C K w' H' ∧ ((e = .returned (.bool true) ∧ Mkd K (fun i => i ∈ Y ∨ P i) H' ∧ J Y w') ∨ (e = .returned (.bool false) ∧ (∀ d ∈ H', d.c.met ≤ K) ∧ ∃ Y', Jx Y' w'))
theorem kid_size (t : T) (x : T) (h : x ∈ t.kids) : Tp.size x < Tp.size t := by
  cases t with
  | mk k m l =>
    have key : ∀ l : List T, x ∈ l → Tp.size x ≤ Tp.sizes l := fun l => by
      induction l with
      | nil => intro h; cases h
      | cons y r ih =>
        intro h
        simp only [Tp.sizes]
        rcases List.mem_cons.1 h with rfl | h
        · omega
        · have := ih h; omega
    have := key l h
    simp only [Tp.size]; omega
mutual
theorem trav_len {H : List SNd} : ∀ (t : T) (p : Nat) (Y : List Nat), (trav H t p Y).length ≤ Y.length + Tp.size t
  | .mk k m l, p, Y => by
    by_cases h : rootOf H p ∈ Y
    · rw [Sg.trav_in h]; omega
    · rw [Sg.trav_out h, List.length_append, List.length_singleton]
      have := travs_len (H := H) l (kidsOf H (rootOf H p)) Y
      simp only [Tp.size, Tp.T.kids]; omega
theorem travs_len {H : List SNd} : ∀ (l : List T) (xs : List Int) (Y : List Nat), (travs H l xs Y).length ≤ Y.length + Tp.sizes l
  | [], _, Y => by simp [travs]
  | _ :: _, [], Y => by simp [travs]
  | t :: ts, x :: xs, Y => by
    simp only [travs, Tp.sizes]
    have h1 := trav_len (H := H) t x.toNat Y
    have h2 := travs_len (H := H) ts xs (trav H t x.toNat Y)
    omega
end
theorem sizes_take12 (l : List T) (k : Nat) (h : k < l.length) : Tp.sizes (l.take k) + Tp.size l[k] ≤ Tp.sizes l := by
  induction l generalizing k with
  | nil => simp at h
  | cons t r ih =>
    cases k with
    | zero => simp [Tp.sizes]
    | succ k =>
      have := ih k (by simpa using h)
      simp only [List.take_succ_cons, Tp.sizes, List.getElem_cons_succ]
      omega
theorem size_kids12 (t : T) : Tp.size t = Tp.sizes t.kids + 1 := by cases t; simp [Tp.size, Tp.T.kids, Nat.add_comm]
theorem travs_take_len {H : List SNd} (l : List T) (xs : List Int) (Y : List Nat) (h : l.length = xs.length) (k : Nat) (hk : k = xs.length) : travs H (l.take k) (xs.take k) Y = travs H l xs Y := by
  rw [List.take_of_length_le (by omega), List.take_of_length_le (by omega)]
theorem travs_mem {H : List SNd} : ∀ (l : List T) (xs : List Int) (Y : List Nat), l.length = xs.length → ∀ x ∈ xs, rootOf H x.toNat ∈ travs H l xs Y
  | [], [], _, _, _, h => by cases h
  | [], _ :: _, _, h, _, _ => by simp at h
  | _ :: _, [], _, h, _, _ => by simp at h
  | t :: ts, x :: xs, Y, h, z, hz => by
    simp only [travs]
    rcases List.mem_cons.1 hz with rfl | hz
    · obtain ⟨Z, hZ⟩ := Sg.travs_pre (H := H) ts xs (trav H t z.toNat Y)
      rw [hZ]; exact List.mem_append_left _ (Sg.trav_mem t z.toNat Y)
    · exact travs_mem ts xs _ (by simpa using h) z hz
theorem travs_pre_take {H : List SNd} : ∀ (l : List T) (xs : List Int) (Y : List Nat) (k : Nat), l.length = xs.length → ∃ Z, travs H l xs Y = travs H (l.take k) (xs.take k) Y ++ Z
  | [], [], Y, k, _ => ⟨[], by simp [travs]⟩
  | [], _ :: _, _, _, h => by simp at h
  | _ :: _, [], _, _, h => by simp at h
  | t :: ts, x :: xs, Y, 0, _ => by
    obtain ⟨Z, hZ⟩ := Sg.travs_pre (H := H) (t :: ts) (x :: xs) Y
    exact ⟨Z, by rw [hZ]; simp [travs]⟩
  | t :: ts, x :: xs, Y, k + 1, h => by
    obtain ⟨Z, hZ⟩ := travs_pre_take (H := H) ts xs (trav H t x.toNat Y) k (by simpa using h)
    exact ⟨Z, by simpa [travs] using hZ⟩
section
variable {B s g cap : Nat} {L C K : Int}
theorem SV.kid {w : World} {H : List SNd} (h : SV B s g cap L C K w H) {q : Nat} {d : SNd} (hd : H[q]? = some d) (k : Nat) (hk : k < (kidL d.c.kind d.c.a d.c.b).length) : w.cell? ⟨g, q * 6 + 2 + k, none⟩ = some (.int .i64 (kidL d.c.kind d.c.a d.c.b)[k]) := by
  obtain ⟨_, _, c2, c3, _⟩ := h.node hd
  have h2 : k < 2 := by rw [kidL_len] at hk; have := ar_le d.c.kind; omega
  match k, h2 with
  | 0, _ => rw [show (kidL d.c.kind d.c.a d.c.b)[0] = d.c.a by simp [kidL]]; exact c2
  | 1, _ => rw [show (kidL d.c.kind d.c.a d.c.b)[1] = d.c.b by simp [kidL]]; exact c3
set_option maxRecDepth 100000 in
set_option maxHeartbeats 8000000 in
theorem walk12_any (N0 : Nat) (l : Nat) (J Jx : List Nat → World → Prop) (H0 : List SNd) (F : List Nat)
    (hJ : ∀ Y A D, J Y A → Turns (fun k => k = s ∨ k = g) A D → J Y D)
    (hY : ∀ Y r H W, J Y W → SV B s g cap L C K W H → Alk H0 H → (∀ d ∈ H, d.c.met ≤ K) → RndP N0 H0 F Y r → YieldAt Fence.wide 8 Try.prog l #[.int .i64 (r : Int)] W fun e W' =>
      (e = .returned (.bool true) ∧ J (Y ++ [r]) W' ∧ SV B s g cap L C K W' H) ∨ (e = .returned (.bool false) ∧ Jx (Y ++ [r]) W' ∧ SV B s g cap L C K W' H)) :
    ∀ (n : Nat) (t : T) (p : Nat) (Y : List Nat) (P : Nat → Prop) (H : List SNd) (w : World), Tp.size t ≤ n → Y.length + Tp.size t ≤ N0 → Den H0 t p → Alk H0 H → SV B s g cap L C K w H → Mkd K (fun i => i ∈ Y ∨ P i) H →
      (∀ i u, P i → Den H0 u i → rootOf H0 i = i → Tp.size t < Tp.size u) → (∀ i, P i → rootOf H0 i = i) → J Y w → (∃ Z, F = trav H0 t p Y ++ Z) →
      Calls Try.prog 118 #[.pointer (some ⟨s, 0, none⟩), .int .i64 (p : Int), .func (.yield l) #[] #[]] w (WkP B s g cap L C K H0 P J Jx (trav H0 t p Y)) := by
  intro n
  induction n with
  | zero => intro t p Y P H w h; have := Tp.size_pos t; omega
  | succ n ih =>
    intro t p Y P H w hn hN0 hD hA hsv hM hP hPr hj hF0
    obtain ⟨d0, r0, hd0, hr0, hu0, hk0, -, hds⟩ := hD.open
    obtain ⟨d, hd, ed, _⟩ := hA.get hd0
    obtain ⟨r, hr, er, ek, _, ea, eb⟩ := hA.get hr0
    have hrt : rootOf H0 p = d0.up := by unfold rootOf; rw [hd0]
    obtain ⟨q, hq⟩ : ∃ q, d0.up = q := ⟨_, rfl⟩
    rw [hq] at hrt hr hr0 hu0
    have hroot := root12_any hsv hd
    rw [ed, hq] at hroot
    have hql : q < H.length := (List.getElem?_eq_some_iff.1 hr).1
    obtain ⟨q0, q1⟩ := pt_int hql
    have hrq : rootOf H0 q = q := by unfold rootOf; rw [hr0]; exact hu0
    have hDq : Den H0 t q := by have := hD.root.1; rwa [hrt] at this
    have hpq : ¬ P q := fun h => by have := hP q t h hDq hrq; omega
    have hmk := hM q r hr
    have HRT := Lib.hid hroot; have HSV := Lib.hid hsv; have HM := Lib.hid hM; have HA := Lib.hid hA; have HD := Lib.hid hD; have HJ := Lib.hid hJ; have HY := Lib.hid hY; have HR := Lib.hid hr; have HR0 := Lib.hid hr0; have HDS := Lib.hid hds; have HQ := Lib.hid hrt; have HP := Lib.hid hP; have HPR := Lib.hid hPr; have HJY := Lib.hid hj; have HDQ := Lib.hid hDq; have HRQ := Lib.hid hrq; have HPQ := Lib.hid hpq; have HMK := Lib.hid hmk; have IH := Lib.hid ih; have HN := Lib.hid hn; have HN0 := Lib.hid hN0; have HF0 := Lib.hid hF0; have EK := Lib.hid ek; have EA := Lib.hid ea; have EB := Lib.hid eb; have HK0 := Lib.hid hk0; have HU0 := Lib.hid hu0; have HER := Lib.hid er
    clear hroot hsv hM hA hD hJ hY hr hr0 hds hrt hP hPr hj hF0 hDq hrq hpq hmk ih hn hN0 hd0 hd ed ek ea eb hk0 hu0 er hq hql
    go_enter Try.func118, Try.ntmps118
    go_upto_region 1 with fail
    go_wp2_with fail
    refine HRT.out.mono ?_
    rintro e w1 ⟨rfl, hsv1, hk1⟩
    obtain ⟨c0, c1, c2, c3⟩ := hsv1.sbox
    have cm := (hsv1.node HR.out).2.2.2.2
    have HSV1 := Lib.hid hsv1; have HK1 := Lib.hid hk1
    have hj1 := HJ.out Y w w1 HJY.out ((Kp.turns hk1).mono fun _ _ h => .inr h)
    have HJ1 := Lib.hid hj1
    clear hsv1 hk1 hj1
    go_upto_region 2 with fail
    obtain ⟨met, hmet⟩ : ∃ m, r.c.met = m := ⟨_, rfl⟩
    rw [hmet] at cm
    have HMET := Lib.hid hmet
    clear hmet
    go_cut [25] from 13 (fun v wx => v = .bool (met == K) ∧ Below w1.heap.size w1 wx)
    case first =>
      by_cases hmk : met = K
      · have hmb : (met == K) = true := by simp [hmk]
        go_quiet (fail)
        go_wp2_with fail
        go_meet
        case rel => exact ⟨by rw [hmb], ⟨rfl, rfl, rfl, Nat.le_refl _, fun _ _ => rfl⟩⟩
      · have hmb : (met == K) = false := by simp [hmk]
        go_quiet (fail)
        go_wp2_with fail
        go_meet
        case rel => exact ⟨by rw [hmb], ⟨rfl, rfl, rfl, Nat.le_refl _, fun _ _ => rfl⟩⟩
    case rest =>
    obtain ⟨rfl, hbc⟩ := hcut
    obtain ⟨w2, hw2⟩ : ∃ q, wc = q := ⟨_, rfl⟩
    rw [hw2] at hbc ⊢
    clear hw2 wc
    have HSV2 := Lib.hid (HSV1.out.below hbc)
    have HJ2 := Lib.hid (HJ.out Y w1 w2 HJ1.out (below_turns hbc))
    clear hbc c0 c1 c2 c3 cm
    by_cases hmk : met = K
    · have hmb : (met == K) = true := by simp [hmk]
      have HIN := Lib.hid (show q ∈ Y from (HMK.out.2.1 (HMET.out.trans hmk)).resolve_right HPQ.out)
      rw [hmb]
      clear hmk
      go_wp2_with fail
      go_ret
      refine ⟨H, HA.out, HSV2.out, .inl ⟨rfl, ?_, ?_⟩⟩
      · exact HM.out.iff fun i => by rw [Sg.trav_in (by rw [HQ.out]; exact HIN.out)]
      · rw [Sg.trav_in (by rw [HQ.out]; exact HIN.out)]; exact HJ2.out
    · have hmb : (met == K) = false := by simp [hmk]
      have HNI := Lib.hid (show ¬ q ∈ Y from fun h => hmk (HMET.out.symm.trans (HMK.out.2.2 (.inl h))))
      rw [hmb]
      clear hmk hmb
      obtain ⟨c0, c1, c2, c3⟩ := HSV2.out.sbox
      have cm := (HSV2.out.node HR.out).2.2.2.2
      have fm : w2.frozen? ⟨g, q * 6 + 5, none⟩ = false := HSV2.out.thaw _
      go_upto_region 4 with fail
      go_cut [36] from 26 (fun _ wx => Below (w2.setCell ⟨g, q * 6 + 5, none⟩ (.int .i64 K)).heap.size (w2.setCell ⟨g, q * 6 + 5, none⟩ (.int .i64 K)) wx)
      case first =>
        go_region_law (fail)
        all_goals
          go_wp2_with fail
          go_meet
          case rel => exact ⟨rfl, rfl, rfl, Nat.le_refl _, fun _ _ => rfl⟩
      case rest =>
      have hsv3 := (HSV2.out.say HR.out { r.c with met := K } (.int .i64 K) (by omega) (fun u => rfl) : SV B s g cap L C K (w2.setCell ⟨g, q * 6 + 5, none⟩ (.int .i64 K)) (H.set q { r with c := { r.c with met := K } }))
      have hj3 := HJ.out Y w2 _ HJ2.out (Turns.setCell w2 ⟨g, q * 6 + 5, none⟩ (.int .i64 K) (.inr rfl))
      have hsv4 := hsv3.below hcut
      have hj4 := HJ.out Y _ _ hj3 (below_turns hcut)
      have hm4 := HM.out.set HR.out
      have ha4 := HA.out.trans (Alk.mark HR.out K)
      have hr4 : (H.set q { r with c := { r.c with met := K } })[q]? = some { r with c := { r.c with met := K } } := Sg.set_same HR.out
      obtain ⟨H4, hH4⟩ : ∃ x, H.set q { r with c := { r.c with met := K } } = x := ⟨_, rfl⟩
      obtain ⟨r4, hr4'⟩ : ∃ x : SNd, { r with c := { r.c with met := K } } = x := ⟨_, rfl⟩
      have e4 : r4.c.kind = r0.c.kind ∧ r4.c.a = r0.c.a ∧ r4.c.b = r0.c.b := by rw [← hr4']; exact ⟨EK.out, EA.out, EB.out⟩
      rw [hH4] at hsv4 hm4 ha4 hr4
      rw [hr4'] at hr4
      obtain ⟨w4, hw4⟩ : ∃ x, wc = x := ⟨_, rfl⟩
      rw [hw4] at hsv4 hj4 ⊢
      have hkd := kids12_any hsv4 hr4
      have hks : kidsOf H0 q = kidL r4.c.kind r4.c.a r4.c.b := by unfold kidsOf; rw [HR0.out]; show kidL r0.c.kind r0.c.a r0.c.b = _; rw [e4.1, e4.2.1, e4.2.2]
      have hdk : Dens H0 t.kids (kidsOf H0 q) := by rw [hks, e4.1, e4.2.1, e4.2.2]; exact HDS.out
      obtain ⟨ks, hks'⟩ : ∃ x, kidsOf H0 q = x := ⟨_, rfl⟩
      rw [hks'] at hks hdk
      have hlk : ks.length = ar r4.c.kind := by rw [hks, kidL_len]
      obtain ⟨m, hm⟩ : ∃ x, ar r4.c.kind = x := ⟨_, rfl⟩
      rw [hm] at hkd hlk
      have hm2 : m ≤ 2 := by rw [← hm]; exact ar_le _
      have HSV4 := Lib.hid hsv4; have HJ4 := Lib.hid hj4; have HM4 := Lib.hid hm4; have HA4 := Lib.hid ha4; have HR4 := Lib.hid hr4; have HKD := Lib.hid hkd; have HKS := Lib.hid hks; have HDK := Lib.hid hdk; have HLK := Lib.hid hlk; have HM2 := Lib.hid hm2; have HKO := Lib.hid hks'; have HDL := Lib.hid (hdk.len.trans hlk)
      have HTR := Lib.hid (show trav H0 t p Y = travs H0 t.kids ks Y ++ [q] by rw [Sg.trav_out (by rw [HQ.out]; exact HNI.out), HQ.out, hks'])
      clear hsv3 hj3 hsv4 hj4 hm4 ha4 hr4 hkd hks hdk hlk hm hm2 hks' e4 hH4 hr4' hw4 hcut c0 c1 c2 c3 cm fm
      clear wc
      go_upto_region 5 with fail
      go_wp2_with fail
      refine HKD.out.mono ?_
      rintro e w5 ⟨rfl, hb5⟩
      have HSV5 := Lib.hid (HSV4.out.below hb5)
      have HJ5 := Lib.hid (HJ.out Y w4 w5 HJ4.out (below_turns hb5))
      clear hb5
      go_wp2_with fail
      go_loopg [41] m (fun gk v wr => ∃ (k : Nat) (Hk : List SNd), k ≤ m ∧ v = .int .i64 (k : Int) ∧ Alk H0 Hk ∧ SV B s g cap L C K wr Hk ∧ Mkd K (fun i => i ∈ travs H0 (t.kids.take k) (ks.take k) Y ∨ (P i ∨ i = q)) Hk ∧ J (travs H0 (t.kids.take k) (ks.take k) Y) wr ∧ gk = m - k)
      case atStart =>
        refine ⟨0, H4, Nat.zero_le _, rfl, HA4.out, HSV5.out, ?_, ?_, rfl⟩
        · exact HM4.out.iff fun i => by simp [travs, or_assoc]
        · simpa [travs] using HJ5.out
      case round =>
        obtain ⟨k, Hk, hkm, rfl, hA, hsv, hM, hj, rfl⟩ := hrel
        have HAK := Lib.hid hA; have HSVK := Lib.hid hsv; have HMK2 := Lib.hid hM; have HJK := Lib.hid hj
        clear hA hsv hM hj
        by_cases hlt : k < m
        · have hkk : k < ks.length := by rw [HLK.out]; exact hlt
          have hkt : k < t.kids.length := by rw [HDL.out]; exact hlt
          obtain ⟨x, hx, hdx⟩ := HDK.out.get k hkt hkk
          obtain ⟨rk, hrk, _, e1, _, e3, e4⟩ := (HA4.out.symm.trans HAK.out).get HR4.out
          have hkl : kidL rk.c.kind rk.c.a rk.c.b = ks := by rw [e1, e3, e4]; exact HKS.out.symm
          have hck := HSVK.out.kid hrk k (by rw [hkl]; exact hkk)
          simp only [hkl, hx] at hck
          obtain ⟨i1, i2⟩ := pt_int hlt
          have hsz : Tp.size t.kids[k] < Tp.size t := kid_size t _ (List.getElem_mem hkt)
          have hyl : (travs H0 (t.kids.take k) (ks.take k) Y).length + Tp.size t.kids[k] ≤ N0 := by
            have h1 := travs_len (H := H0) (t.kids.take k) (ks.take k) Y
            have h2 := sizes_take12 t.kids k hkt
            have h3 := size_kids12 t
            have := HN0.out
            omega
          have hrec := IH.out t.kids[k] x (travs H0 (t.kids.take k) (ks.take k) Y) (fun i => P i ∨ i = q) Hk wr (by have := HN.out; omega) hyl hdx HAK.out HSVK.out HMK2.out (fun i u hi hu he => by
            rcases hi with hi | rfl
            · have := HP.out i u hi hu he; omega
            · have := Den.det hu HDQ.out rfl; subst this; exact hsz) (fun i hi => by
            rcases hi with hi | rfl
            · exact HPR.out i hi
            · exact HRQ.out) HJK.out (by
            obtain ⟨Z0, hZ0⟩ := HF0.out
            obtain ⟨Z1, hZ1⟩ := travs_pre_take (H := H0) t.kids ks Y (k + 1) (HDL.out.trans HLK.out.symm)
            have htk := Sg.travs_take (H := H0) t.kids ks Y k hkt hkk
            rw [hx, Int.toNat_natCast] at htk
            exact ⟨Z1 ++ [q] ++ Z0, by rw [hZ0, HTR.out, hZ1, htk]; simp [List.append_assoc]⟩)
          have htk := Sg.travs_take (H := H0) t.kids ks Y k hkt hkk
          rw [hx, Int.toNat_natCast] at htk
          rw [← htk] at hrec
          have HREC := Lib.hid hrec
          clear hrec htk hdx hrk e1 e3 e4 hkl hx hsz hyl hkt
          go_wp2_with fail
          refine HREC.out.mono ?_
          rintro e w6 ⟨H6, hA6, hsv6, (⟨rfl, hM6, hj6⟩ | ⟨rfl, hM6, hj6⟩)⟩
          · have HA6 := Lib.hid hA6; have HSV6 := Lib.hid hsv6; have HM6 := Lib.hid hM6; have HJ6 := Lib.hid hj6
            clear hA6 hsv6 hM6 hj6
            go_wp2_with fail
            go_roundg (m - (k + 1))
            case measure => omega
            case rel => exact ⟨k + 1, H6, hlt, by rw [wrapS (k := k) (by have := HM2.out; unfold maxLen; omega)], HA6.out, HSV6.out, HM6.out, HJ6.out, rfl⟩
          · have HA6 := Lib.hid hA6; have HSV6 := Lib.hid hsv6; have HM6 := Lib.hid hM6; have HJ6 := Lib.hid hj6
            clear hA6 hsv6 hM6 hj6
            go_wp2_with fail
            go_ret
            exact ⟨H6, HA6.out, HSV6.out, .inr ⟨rfl, HM6.out, HJ6.out⟩⟩
        · obtain rfl : k = m := by omega
          have hall := travs_take_len (H := H0) t.kids ks Y (HDL.out.trans HLK.out.symm) k HLK.out.symm
          have hj9 := HJK.out
          have hM9 := HMK2.out
          rw [hall] at hj9 hM9
          have hrnd : RndP N0 H0 F (travs H0 t.kids ks Y) q := ⟨r0, t, HR0.out, HU0.out, HDQ.out, fun x hx => travs_mem t.kids ks Y (HDL.out.trans HLK.out.symm) x (by rw [← HKO.out]; exact hx), by have h1 := travs_len (H := H0) t.kids ks Y; have h3 := size_kids12 t; have := HN0.out; omega, by have := HN0.out; omega, by obtain ⟨Z0, hZ0⟩ := HF0.out; exact ⟨Z0, by rw [hZ0, HTR.out]; simp⟩⟩
          obtain ⟨fn, tmps, assign, body, hy, hRd⟩ := yield_depth 8 (HY.out _ q Hk wr hj9 HSVK.out HAK.out hM9.le hrnd)
          have HM9 := Lib.hid hM9
          clear hall hj9 hM9 hrnd
          go_upto_region 11 with fail
          refine (wpIn_wide (n := 9)).1 ?_
          gi_wp2
          refine hRd.mono ?_
          rintro e w7 (⟨rfl, hj7, hsv7⟩ | ⟨rfl, hj7, hsv7⟩)
          · gi_wp2
            go_wp2_with fail
            go_ret
            exact ⟨Hk, HAK.out, hsv7, .inl ⟨rfl, HM9.out.iff fun i => (by rw [HTR.out, List.mem_append, List.mem_singleton]; exact ⟨fun h => h.elim (fun a => .inl (.inl a)) (fun h => h.elim .inr (fun e => .inl (.inr e))), fun h => h.elim (fun h => h.elim .inl (fun e => .inr (.inr e))) (fun p => .inr (.inl p))⟩), by rw [HTR.out]; exact hj7⟩⟩
          · gi_wp2
            go_wp2_with fail
            go_ret
            exact ⟨Hk, HAK.out, hsv7, .inr ⟨rfl, HM9.out.le, _, hj7⟩⟩
end
end Go.Proofs.Yteolbbgnkbcfmaa
namespace Go.Proofs.Yteolbbgnkbcfmaa
open Go Go.RowKit Go.Shelf
open Tp (T)
open Sg (Of Rt Den Dens Alk Mkd trav travs rootOf kidsOf)
attribute [local go_sem] Oper.semAt_some
/-- The store while its roots are gone through: the marks alone may turn. -/
def StS (B s g cap : Nat) (L C : Int) (H0 : List SNd) (m : Int × List SNd) (w : World) : Prop := SV B s g cap L C m.1 w m.2 ∧ Alk H0 m.2 ∧ ∀ d ∈ m.2, d.c.met ≤ m.1
theorem StS.same {B s g cap : Nat} {L C : Int} {H0 : List SNd} (m : Int × List SNd) (A D : World) (h : StS B s g cap L C H0 m A) (hk : ∀ k, (k = s ∨ k = g) → D.heap[k]? = A.heap[k]?) : StS B s g cap L C H0 m D :=
  ⟨h.1.same (hk s (.inl rfl)) (hk g (.inr rfl)), h.2⟩
section
variable {B s g cap : Nat} {L C K : Int}
set_option maxRecDepth 100000 in
set_option maxHeartbeats 4000000 in
theorem roots_seq (H0 : List SNd) (t : T) (p : Nat) (hD : Den H0 t p) (hK : 0 ≤ K ∧ K < 4611686018427387904) (b1 b2 : Nat) (w : World) (c1 : w.heap[b1]? = some (.cells #[.pointer (some ⟨s, 0, none⟩)] 30)) (c2 : w.heap[b2]? = some (.cells #[.int .i64 (p : Int)] 3))
    (hm0 : ∀ d ∈ H0, d.c.met ≤ K) :
    SeqSto Try.prog 117 #[.pointer (some ⟨b1, 0, none⟩), .pointer (some ⟨b2, 0, none⟩)] (fun k => k = s ∨ k = g) (StS B s g cap L C H0) (fun Y r m => RndP (Tp.size t) H0 (trav H0 t p []) Y r ∧ m.1 = K + 1) (fun Y => Y = trav H0 t p []) (fun m => m.1 = K + 1) (K, H0) w := by
  intro l J Jx W hW hJ hJx hY hst hj
  obtain ⟨hsv, -, -⟩ := hst
  dsimp only at hsv
  have hb1 : b1 < w.heap.size := (Array.getElem?_eq_some_iff.1 c1).1
  have hb2 : b2 < w.heap.size := (Array.getElem?_eq_some_iff.1 c2).1
  have e1 := (hW.block b1 hb1).trans c1
  have e2 := (hW.block b2 hb2).trans c2
  have d1 : W.cell? ⟨b1, 0, none⟩ = some (.pointer (some ⟨s, 0, none⟩)) := cell_box e1 rfl rfl
  have d2 : W.cell? ⟨b2, 0, none⟩ = some (.int .i64 (p : Int)) := cell_box e2 rfl rfl
  have c3 := hsv.sbox.2.2.2
  have f3 : W.frozen? ⟨s, 3, none⟩ = false := IsC.frozen ⟨_, _, hsv.box⟩
  have hw : wrap64 (K + 1) = K + 1 := by unfold wrap64; omega
  have hne1 : b1 ≠ s := fun e => by rw [e, hsv.box] at e1; injection e1 with e1; injection e1 with _ h; exact absurd h (by decide)
  have hne2 : b2 ≠ s := fun e => by rw [e, hsv.box] at e2; injection e2 with e2; injection e2 with _ h; exact absurd h (by decide)
  obtain ⟨W1, hW1⟩ : ∃ x, W.setCell ⟨s, 3, none⟩ (.int .i64 (K + 1)) = x := ⟨_, rfl⟩
  have hsv1 : SV B s g cap L C (K + 1) W1 H0 := by rw [← hW1]; exact hsv.num 3 (K + 1) L C (K + 1) (.inr ⟨rfl, rfl, rfl, rfl⟩)
  have g1 : W1.cell? ⟨b1, 0, none⟩ = some (.pointer (some ⟨s, 0, none⟩)) := cell_box e1 (by rw [← hW1]; exact Below.heap_setCell _ _ _ b1 hne1) rfl
  have g2 : W1.cell? ⟨b2, 0, none⟩ = some (.int .i64 (p : Int)) := cell_box e2 (by rw [← hW1]; exact Below.heap_setCell _ _ _ b2 hne2) rfl
  have hj1 : J [] W1 := by rw [← hW1]; exact hJ [] W _ hj (Turns.setCell W ⟨s, 3, none⟩ _ (.inl rfl))
  have hwk := walk12_any (B := B) (s := s) (g := g) (cap := cap) (L := L) (C := C) (K := K + 1) (Tp.size t) l J Jx H0 (trav H0 t p []) hJ
    (fun Y r H V hjv hsvv hav hmv hrv => YieldAt.mono (hY Y r (K + 1, H) V hjv ⟨hsvv, hav, hmv⟩ ⟨hrv, rfl⟩) fun e V' h => h.elim (fun h => .inl ⟨h.1, h.2.1, h.2.2.1⟩) (fun h => .inr ⟨h.1, h.2.1, h.2.2.1⟩))
    (Tp.size t) t p [] (fun _ => False) H0 W1 (Nat.le_refl _) (by simp) hD (Alk.refl _) hsv1 ((Sg.Mkd.new hm0).iff fun i => by simp) (fun i u h => h.elim) (fun i h => h.elim) hj1 ⟨[], by simp⟩
  have HWK := Lib.hid hwk; have HW1 := Lib.hid hW1
  clear hwk hW1 hJ hJx hY hsv hsv1 hj hj1 hD hm0 e1 e2 c1 c2 hne1 hne2 hW hK
  go_enter Try.func117, Try.ntmps117
  go_upto_region 1 with fail
  rw [hw, HW1.out]
  clear d1 d2 c3 f3
  go_wp2_with fail
  refine HWK.out.mono ?_
  rintro e w7 ⟨H', hA, hsv, h⟩
  have HH := Lib.hid h
  clear h
  rcases HH.out with ⟨rfl, hm, hj⟩ | ⟨rfl, hm, Y', hj⟩
  · have HM := Lib.hid hm; have HJ := Lib.hid hj
    clear hm hj HH
    go_wp2_with fail
    go_end0
    exact ⟨⟨_, rfl⟩, (K + 1, H'), rfl, ⟨hsv, hA, HM.out.le⟩, .inl ⟨_, rfl, HJ.out⟩⟩
  · have HM := Lib.hid hm; have HJ := Lib.hid hj
    clear hm hj HH
    go_wp2_with fail
    go_end0
    exact ⟨⟨_, rfl⟩, (K + 1, H'), rfl, ⟨hsv, hA, HM.out⟩, .inr ⟨Y', HJ.out⟩⟩
end
/-- The iterator's value: two boxes of the call's own. -/
theorem roots12_any (s p : Nat) (w : World) : Calls Try.prog 74 #[.pointer (some ⟨s, 0, none⟩), .int .i64 (p : Int)] w fun e w' => e = .returned (.func (.func 117) #[] #[.pointer (some ⟨w.heap.size, 0, none⟩), .pointer (some ⟨w.heap.size + 1, 0, none⟩)]) ∧ w' = (w.alloc (.cells #[.pointer (some ⟨s, 0, none⟩)] 30)).alloc (.cells #[.int .i64 (p : Int)] 3) := by
  go_enter Try.func74, Try.ntmps74
  go_wp2_with fail
  go_ret
  exact ⟨by simp, rfl⟩
end Go.Proofs.Yteolbbgnkbcfmaa
namespace Go.Proofs.Yteolbbgnkbcfmaa
open Go Go.RowKit Go.Shelf
open Tp (T)
open Sg (Of Rt Den Dens Alk Mkd trav travs rootOf kidsOf)
attribute [local go_sem] Oper.semAt_some
/-- Is a root a variable? -/
def isV (H : List SNd) (r : Nat) : Bool := match H[r]? with | some d => decide (d.c.kind = 6) | none => false
def varsOf (H : List SNd) (Y : List Nat) : List Nat := Y.filter (isV H)
def natRow (l : List Nat) : List Value := l.map fun (n : Nat) => Value.int .i64 ((n : Nat) : Int)
theorem info_int : (Try.prog.info? 3).map (fun i => (i.zero, i.size, i.bytes)) = some (some (.int .i64 0), 1, 8) := by kernel_rfl
theorem own_baseN {B B' sz n : Nat} {e : TypeId} {w : World} {v : Value} {xs : List Value} (h : w.ownsRow B e sz v n xs) (hB : B' ≤ B) : w.ownsRow B' e sz v n xs := ⟨h.1, h.2.imp id fun ⟨g, cap, cur, h1, h2, h3⟩ => ⟨g, cap, cur, h1, Nat.le_trans hB h2, h3⟩⟩
theorem natRow_len (l : List Nat) : (natRow l).length = l.length * 1 := by simp [natRow]
theorem varsOf_snoc (H : List SNd) (Y : List Nat) (r : Nat) : varsOf H (Y ++ [r]) = if isV H r then varsOf H Y ++ [r] else varsOf H Y := by
  unfold varsOf; rw [List.filter_append]; cases h : isV H r <;> simp [h]
theorem b8n {r : Nat} (h : r ≤ 4000000) : (r + 1) * 8 ≤ 140737488355328 ∧ r + 1 ≤ maxLen := by unfold maxLen; omega
section
variable {B s g cap : Nat} {L C K : Int} {w : World} {H : List SNd}
/-- What Vars hands back. -/
def VaP (B s g cap : Nat) (L C K : Int) (H : List SNd) (vs : List Nat) (w : World) (e : Ending) (w' : World) : Prop := ∃ v H', e = .returned v ∧ w'.ownsRow w.heap.size 3 1 v vs.length (natRow vs) ∧ SV B s g cap L C (K + 1) w' H' ∧ Alk H H' ∧ (∀ d ∈ H', d.c.met ≤ K + 1) ∧ Kp w.heap.size (fun k => k = s ∨ k = g) w w'
set_option maxRecDepth 100000 in
set_option maxHeartbeats 4000000 in
theorem vars12_any (h : SV B s g cap L C K w H) (hm : ∀ d ∈ H, d.c.met ≤ K) (hK : 0 ≤ K ∧ K < 4611686018427387904) {t : T} {p : Nat} (hD : Den H t p) (hsz : Tp.size t ≤ 1000000) :
    Calls Try.prog 22 #[.pointer (some ⟨s, 0, none⟩), .int .i64 (p : Int)] w (VaP B s g cap L C K H (varsOf H (trav H t p [])) w) := by
  have hpl : p < H.length := by obtain ⟨d, _, hd, _⟩ := hD.open; exact (List.getElem?_eq_some_iff.1 hd).1
  obtain ⟨W2, hW2⟩ : ∃ W, (w.alloc (.cells #[.pointer (some ⟨s, 0, none⟩)] 30)).alloc (.cells #[.int .i64 (p : Int)] 3) = W := ⟨_, rfl⟩
  have hb2 : Below w.heap.size w W2 := by rw [← hW2]; exact ((Below.refl _ _).alloc (Nat.le_refl _) _).alloc (by simp) _
  have hx0 : W2.heap[w.heap.size]? = some (.cells #[.pointer (some ⟨s, 0, none⟩)] 30) := by rw [← hW2]; exact box1 _ _ _ _ _
  have hx1 : W2.heap[w.heap.size + 1]? = some (.cells #[.int .i64 (p : Int)] 3) := by rw [← hW2]; exact box2 _ _ _ _ _
  have hs2 : W2.heap.size = w.heap.size + 2 := by rw [← hW2]; simp
  have h2 := h.below hb2
  have hia : IntsAt W2 [(p : Int)] (some ⟨w.heap.size + 1, 0, none⟩) := fun i hi => by
    obtain rfl : i = 0 := by simp at hi; omega
    exact ⟨_, _, rfl, cell_box hx1 rfl rfl⟩
  have hhv := have12_any h2 [(p : Int)] (some ⟨w.heap.size + 1, 0, none⟩) 1 (by unfold maxLen; simp) hia
  rw [okN_nat hpl] at hhv
  have d0 : W2.cell? ⟨w.heap.size, 0, none⟩ = some (.pointer (some ⟨s, 0, none⟩)) := cell_box hx0 rfl rfl
  have c0 : (w.alloc (.cells #[.pointer (some ⟨s, 0, none⟩)] 30)).cell? ⟨w.heap.size, 0, none⟩ = some (.pointer (some ⟨s, 0, none⟩)) := cell_box (World.alloc_heap_new w _) rfl rfl
  have HHV := Lib.hid hhv; have HW2 := Lib.hid hW2; have HB2 := Lib.hid hb2; have HX0 := Lib.hid hx0; have HS2 := Lib.hid hs2; have HSV := Lib.hid h2; have HM := Lib.hid hm; have HK := Lib.hid hK; have HD := Lib.hid hD; have HSZ := Lib.hid hsz; have HF := Lib.hid h.far
  clear h hhv hW2 hb2 hx0 hx1 hs2 h2 hia hm hK hD hsz hpl
  refine callsIn_wide (n := 9) |>.1 ?_
  refine callsIn_of_wp_marks Try.func22 rfl trivial ?_ rfl
  simp only [Try.ntmps22, List.size_toArray, List.length_cons, List.length_nil, Nat.reduceAdd, Nat.reduceSub, Array.replicate_succ, Array.replicate_zero, List.push_toArray, List.append_toArray, List.nil_append, List.cons_append]
  gi_upto_region 1 with fail
  gi_wp2
  rw [HW2.out]
  refine ⟨trivial, ?_⟩
  refine (callsIn_wide.2 HHV.out).mono ?_
  rintro e w2 ⟨rfl, rfl⟩
  obtain ⟨W3, hW3⟩ : ∃ W, w2.alloc (.cells #[.slice none 0 0] 27) = W := ⟨_, rfl⟩
  have hb3 : Below w2.heap.size w2 W3 := by rw [← hW3]; exact (Below.refl _ _).alloc (Nat.le_refl _) _
  have d3 : W3.cell? ⟨w.heap.size, 0, none⟩ = some (.pointer (some ⟨s, 0, none⟩)) := cell_box ((hb3.block _ (by rw [HS2.out]; omega)).trans HX0.out) rfl rfl
  have hx3 : W3.heap[w2.heap.size]? = some (.cells #[.slice none 0 0] 27) := by rw [← hW3]; exact World.alloc_heap_new w2 _
  have hs3 : W3.heap.size = w.heap.size + 3 := by rw [← hW3, World.size_alloc, HS2.out]
  have HB3 := Lib.hid hb3; have HX3 := Lib.hid hx3; have HS3 := Lib.hid hs3; have HW3 := Lib.hid hW3
  clear hb3 hx3 hs3 hW3
  clear c0
  gi_upto_region 4 with fail
  rw [HW3.out]
  clear d0
  gi_wp2_with (refine ⟨trivial, ?_⟩; gi_at_call 74; refine (callsIn_wide.2 (roots12_any s p _)).mono ?_; rintro e w' ⟨rfl, rfl⟩)
  obtain ⟨W5, hW5⟩ : ∃ W, (W3.alloc (.cells #[.pointer (some ⟨s, 0, none⟩)] 30)).alloc (.cells #[.int .i64 (p : Int)] 3) = W := ⟨_, rfl⟩
  have hb5 : Below W3.heap.size W3 W5 := by rw [← hW5]; exact ((Below.refl _ _).alloc (Nat.le_refl _) _).alloc (by simp) _
  have hs5 : W5.heap.size = w.heap.size + 5 := by rw [← hW5]; simp [HS3.out]
  have hy0 : W5.heap[W3.heap.size]? = some (.cells #[.pointer (some ⟨s, 0, none⟩)] 30) := by rw [← hW5]; exact box1 _ _ _ _ _
  have hy1 : W5.heap[W3.heap.size + 1]? = some (.cells #[.int .i64 (p : Int)] 3) := by rw [← hW5]; exact box2 _ _ _ _ _
  have hx5 : W5.heap[w2.heap.size]? = some (.cells #[.slice none 0 0] 27) := (hb5.block _ (by rw [HS2.out, HS3.out]; omega)).trans HX3.out
  have hz5 : W5.heap[w.heap.size]? = some (.cells #[.pointer (some ⟨s, 0, none⟩)] 30) := (hb5.block _ (by rw [HS3.out]; omega)).trans ((HB3.out.block _ (by rw [HS2.out]; omega)).trans HX0.out)
  have hbw : Below w.heap.size w W5 := (HB2.out.tr HB3.out (Nat.le_refl _)).tr hb5 (Nat.le_refl _)
  have hsv5 : SV B s g cap L C K W5 H := (HSV.out.below HB3.out).below hb5
  rw [hW5]
  have hseq := roots_seq (B := B) (s := s) (g := g) (cap := cap) (L := L) (C := C) (K := K) H t p HD.out HK.out W3.heap.size (W3.heap.size + 1) W5 hy0 hy1 HM.out
  have HS5 := Lib.hid hs5; have HBW := Lib.hid hbw; have HSV5 := Lib.hid hsv5
  clear hW5 hb5 hs5 hy0 hy1 hbw hsv5 d3 HHV
  refine wpIn_range_sto (a₁ := fun r => { tmps := #[.pointer (some ⟨s, 0, none⟩), .int .i64 (p : Int), .pointer (some ⟨w.heap.size, 0, none⟩), undef, .slice none 0 0, .pointer (some ⟨w2.heap.size, 0, none⟩), .int .i64 (r : Int), .pointer (some ⟨s, 0, none⟩), .int .i64 (p : Int), .slice (some ⟨w.heap.size + 1, 0, none⟩) 1 1, .bool true, .bool false, .pointer (some ⟨s, 0, none⟩), .int .i64 (p : Int),
      .func (.func 117) #[] #[.pointer (some ⟨W3.heap.size, 0, none⟩), .pointer (some ⟨W3.heap.size + 1, 0, none⟩)], .int .i64 (r : Int), undef, undef, undef, undef, undef, undef, undef, undef, undef, undef, undef, undef, undef, undef], defers := [] })
    (w0 := W5) (w := W5) rfl (enters_of Try.func117 (by kernel_rfl) rfl) hseq (Below.refl _ _) ?mine (fun m A D h hk => StS.same m A D h hk) rfl
    (fun Y V => ∃ v, V.heap[w2.heap.size]? = some (.cells #[v] 27) ∧ V.ownsRow (W5.heap.size + 2) 3 1 v (varsOf H Y).length (natRow (varsOf H Y)) ∧ Kp w.heap.size (fun k => k = s ∨ k = g) w V ∧ V.heap[w.heap.size]? = some (.cells #[.pointer (some ⟨s, 0, none⟩)] 30))
    (fun _ _ _ => False) ?inv (fun _ _ _ _ h _ => h) ⟨_, hx5, World.ownsRow_nil _ _ _ _, .of_below HBW.out, hz5⟩ ⟨HSV5.out, Alk.refl _, HM.out⟩ ?assign ?body ?done ?stop
  case mine => rintro k (rfl | rfl) <;> (have := HF.out; have := HS5.out; omega)
  case inv =>
    rintro Y A D ⟨v, h1, h2, h3, h4⟩ hT
    have := HF.out; have := HS5.out; have := HS2.out
    refine ⟨v, hT.heap h1 (by omega), own_same h2 (fun z hz => hT.block z (h2.lt z hz).2 (by have := (h2.lt z hz).1; omega)), ⟨hT.os.trans h3.os, hT.tape.trans h3.tape, hT.output.trans h3.output, Nat.le_trans h3.size hT.size, fun i hi hm => (hT.block i (by have := h3.size; omega) (fun h => h.elim hm (by omega))).trans (h3.block i hi hm)⟩, hT.heap h4 (by omega)⟩
  case assign =>
    intro l r W K hK
    gi_wp2
    exact hK
  case body =>
    rintro l Y r ⟨m1, Hm⟩ V ⟨v, h1, h2, h3, h4⟩ ⟨hsv, hal, hmm⟩ ⟨⟨d, u, hd, hdu, hdd, _, hyn, _⟩, hm1⟩ hlt
    dsimp only at hsv hal hmm hm1
    subst hm1
    obtain ⟨e, he, heu, hek, _⟩ := hal.get hd
    have hrl := (List.getElem?_eq_some_iff.1 he).1
    obtain ⟨q0, q1⟩ := pt_int hrl
    obtain ⟨c0, c1, c2, c3⟩ := hsv.sbox
    have ck := (hsv.node he).1
    have e0 : V.cell? ⟨w.heap.size, 0, none⟩ = some (.pointer (some ⟨s, 0, none⟩)) := cell_box h4 rfl rfl
    have e5 : V.cell? ⟨w2.heap.size, 0, none⟩ = some v := cell_box h1 rfl rfl
    have f5 : V.frozen? ⟨w2.heap.size, 0, none⟩ = false := IsC.frozen ⟨_, _, h1⟩
    have hiv : isV H r = decide (d.c.kind = 6) := by unfold isV; rw [hd]
    obtain ⟨kk, hkk⟩ : ∃ k, e.c.kind = k := ⟨_, rfl⟩
    rw [hkk] at ck
    rw [← hek, hkk] at hiv
    have HSVV := Lib.hid hsv; have HAL := Lib.hid hal; have HMM := Lib.hid hmm; have H1 := Lib.hid h1; have H2 := Lib.hid h2; have H3 := Lib.hid h3; have H4 := Lib.hid h4; have HLT := Lib.hid hlt; have HIV := Lib.hid hiv; have HYN := Lib.hid hyn
    clear hsv hal hmm h1 h2 h3 h4 hlt hiv hyn hd hdu hdd hek hkk heu he
    by_cases h6 : kk = 6
    · subst h6
      obtain ⟨av, cv, rfl⟩ := own_shapeN H2.out
      obtain ⟨N, hN⟩ : ∃ n, (varsOf H Y).length = n := ⟨_, rfl⟩
      have hNb : N ≤ 4000000 := by have h1 := List.length_filter_le (isV H) Y; have h2 : (varsOf H Y).length ≤ Y.length := h1; have := HYN.out; have := HSZ.out; omega
      obtain ⟨b1, b2⟩ := b8n hNb
      obtain ⟨i0, hi, hz0, hz1, hz2⟩ := info_parts info_int
      have h2 := H2.out
      rw [hN] at h2 e5
      have HOW := Lib.hid h2; have HNN := Lib.hid hN; have B1 := Lib.hid b1; have B2 := Lib.hid b2
      have HBS := Lib.hid (show W5.heap.size + 2 ≤ V.heap.size by have := HLT.out; omega)
      clear h2 hN b1 b2 hNb
      gi_wp2_with (gi_at_builtin; refine wpListIn_append_lies _ rfl (.tmp 25) (.tmp 27) 27 rfl (W5.heap.size + 2) 3 i0 (.int .i64 0) 1 8 Try.underlying27 hi hz0 hz1 hz2 rfl (by decide) (.slice av N cv) N (natRow (varsOf H Y)) rfl (HOW.out.alloc _) ⟨V.heap.size, 0, none⟩ 1 1 [.int .i64 (r : Int)] rfl rfl (World.news_of_block (World.alloc_heap_new V _)) (by simp [Value.oneCell']) (by decide) B2.out B1.out (Nat.le_trans HBS.out (by simp)) ?_; intro g1 cap1 w7 hown1 hgr1 hly1; (have e7 : w7.heap[w2.heap.size]? = some (.cells #[.slice av N cv] 27) := (hgr1.block w2.heap.size (by rw [World.size_alloc]; have := (Array.getElem?_eq_some_iff.1 H1.out).1; omega) (fun e => by have := (HOW.out.lt _ e.symm).1; have := HS5.out; have := HS2.out; omega)).trans ((Below.heap_alloc _ _ _ (Array.getElem?_eq_some_iff.1 H1.out).1).trans (by have := H1.out; rw [HNN.out] at this; exact this))); (have e75 : w7.cell? ⟨w2.heap.size, 0, none⟩ = some (.slice av N cv) := cell_box e7 rfl rfl); (have f75 : w7.frozen? ⟨w2.heap.size, 0, none⟩ = false := IsC.frozen ⟨_, _, e7⟩); (have HE7 := Lib.hid e7); (have HOW1 := Lib.hid hown1); (have HGR1 := Lib.hid hgr1); clear e7 hown1 hgr1 hly1)
      have hkp : Kp w.heap.size (fun k => k = s ∨ k = g) w (w7.setCell ⟨w2.heap.size, 0, none⟩ (.slice (some ⟨g1, 0, none⟩) (N + 1) cap1)) :=
        ((H3.out.alloc H3.out.size _).grown HGR1.out (Nat.le_trans H3.out.size (by simp)) (fun z hz => .inl (by have := (HOW.out.lt z hz).1; have := HS5.out; omega))).setCell (.inl (by have := HS2.out; dsimp only; omega)) _
      have far : ∀ z, z < V.heap.size → z ≠ w2.heap.size → z < W5.heap.size + 2 → (w7.setCell ⟨w2.heap.size, 0, none⟩ (.slice (some ⟨g1, 0, none⟩) (N + 1) cap1)).heap[z]? = V.heap[z]? := fun z hz hne hlt2 =>
        (Below.heap_setCell _ _ _ z hne).trans ((HGR1.out.block z (by rw [World.size_alloc]; omega) (fun e => by have := (HOW.out.lt z e.symm).1; omega)).trans (Below.heap_alloc _ _ _ hz))
      have hw5 := HS5.out; have hw2 := HS2.out; have hlt := HLT.out; have hf := HF.out
      have hsv8 : SV B s g cap L C (K + 1) (w7.setCell ⟨w2.heap.size, 0, none⟩ (.slice (some ⟨g1, 0, none⟩) (N + 1) cap1)) Hm := HSVV.out.same (far s (by omega) (by omega) (by omega)) (far g (by omega) (by omega) (by omega))
      refine ⟨⟨far _ (by omega) (by omega) (by omega), far _ (by omega) (by omega) (by omega)⟩, ⟨_, box_set HE7.out, ?_, hkp, (far _ (by omega) (by omega) (by omega)).trans H4.out⟩, hsv8, HAL.out, HMM.out⟩
      have hr9 : varsOf H (Y ++ [r]) = varsOf H Y ++ [r] := by rw [varsOf_snoc, HIV.out]; simp
      rw [hr9, List.length_append, HNN.out]
      have : natRow (varsOf H Y ++ [r]) = natRow (varsOf H Y) ++ [.int .i64 (r : Int)] := by simp [natRow]
      rw [this]
      exact own_same HOW1.out (fun z hz => Below.heap_setCell _ _ _ z (fun (e : z = w2.heap.size) => by have := (HOW1.out.lt z hz).1; omega))
    · have h6b : (kk == 6) = false := by simp [h6]
      gi_wp2
      exact ⟨⟨rfl, rfl⟩, ⟨v, H1.out, by rw [varsOf_snoc, HIV.out]; simpa [h6] using H2.out, H3.out, H4.out⟩, HSVV.out, HAL.out, HMM.out⟩
  case done =>
    rintro Y ⟨m1, Hm⟩ V rfl hm1 ⟨hsv, hal, hmm⟩ ⟨v, h1, h2, h3, h4⟩ hlt hK
    dsimp only at hsv hal hmm hm1
    subst hm1
    have e5 : V.cell? ⟨w2.heap.size, 0, none⟩ = some v := cell_box h1 rfl rfl
    have HSVV := Lib.hid hsv; have HAL := Lib.hid hal; have HMM := Lib.hid hmm; have H2 := Lib.hid h2; have H3 := Lib.hid h3
    clear hsv hal hmm h1 h2 h3 h4
    gi_wp2
    refine ⟨by simp, .inl ⟨_, _, rfl, run_takeDeferred hK, ?_⟩⟩
    have hw5 := HS5.out; have hw2 := HS2.out; have hf := HF.out
    have far : ∀ z, z ≠ W5.heap.size → (V.putObj W5.heap.size (.deferred none)).heap[z]? = V.heap[z]? := fun z hz => World.putObj_heap_other hz
    refine ⟨_, results_tmp rfl _ _ _, v, Hm, rfl, ?_, HSVV.out.same (far s (by omega)) (far g (by omega)), HAL.out, HMM.out, ?_⟩
    · exact own_baseN (own_same H2.out (fun z hz => far z (by have := (H2.out.lt z hz).1; omega))) (by omega)
    · exact ⟨H3.out.os, H3.out.tape, H3.out.output, by rw [World.putObj_size]; exact H3.out.size, fun i hi hm => (far i (by omega)).trans (H3.out.block i hi hm)⟩
  case stop =>
    intro c Y m V _ _ h _ _
    exact h.elim
end
end Go.Proofs.Yteolbbgnkbcfmaa
namespace Go.Proofs.Yteolbbgnkbcfmaa
open Go Go.RowKit
open Tp (T)
open Sg (Of Rt Den Dens Alk Mkd trav travs rootOf kidsOf)
/-- A row of numbers in block z, by places. -/
def NatsAt (w : World) (l : List Nat) (a : Option Addr) : Prop := ∀ i (h : i < l.length), ∃ b, a = some ⟨b, 0, none⟩ ∧ w.cell? ⟨b, i, none⟩ = some (.int .i64 (l[i] : Int))
theorem nats_own {w : World} {Bs : Nat} {l : List Nat} {v : Value} (h : w.ownsRow Bs 3 1 v l.length (natRow l)) : ∃ a c, v = .slice a l.length c ∧ NatsAt w l a ∧ ∀ b o, a = some ⟨b, o, none⟩ → Bs ≤ b ∧ b < w.heap.size := by
  rcases h.2 with ⟨h1, h2⟩ | ⟨g, cap, cur, h1, h2, h3, h4⟩
  · exact ⟨none, 0, by rw [h1, h2], fun i hi => by omega, fun b o e => by cases e⟩
  · subst h1
    refine ⟨_, _, rfl, fun i hi => ⟨g, rfl, ?_⟩, fun b o e => by injection e with e; injection e with e1 e2; subst e1; exact ⟨h2, (Array.getElem?_eq_some_iff.1 h3).1⟩⟩
    have := h.cells (g := g) rfl i (.int .i64 (l[i] : Int)) (by unfold natRow; rw [List.getElem?_map, List.getElem?_eq_getElem hi]; rfl)
    rwa [add_flat, Nat.zero_add] at this
set_option maxRecDepth 100000 in
theorem index12_any (l : List Nat) (x : Nat) (a : Option Addr) (c : Nat) (w : World) (hl : l.length ≤ 4000000) (h : NatsAt w l a) :
    Calls Try.prog 134 #[.slice a l.length c, .int .i64 (x : Int)] w fun e w' => (∃ k : Int, e = .returned (.int .i64 k) ∧ (0 ≤ k ↔ x ∈ l)) ∧ w' = w := by
  obtain ⟨n, hn⟩ : ∃ n, l.length = n := ⟨_, rfl⟩
  rw [hn]
  have HN := Lib.hid hn; have HL := Lib.hid hl; have HA := Lib.hid h
  clear hn hl h
  go_enter Try.func134, Try.ntmps134
  go_wp2_with fail
  go_loopg [8] n (fun gk v wr => ∃ k : Nat, k ≤ n ∧ v = .int .i64 (k : Int) ∧ wr = w ∧ ¬ x ∈ l.take k ∧ gk = n - k)
  case atStart => exact ⟨0, Nat.zero_le _, rfl, rfl, by simp, rfl⟩
  case round =>
    obtain ⟨k, hk, rfl, rfl, hno, rfl⟩ := hrel
    have HNO := Lib.hid hno; clear hno
    by_cases hlt : k < n
    · have hkl : k < l.length := by rw [HN.out]; exact hlt
      obtain ⟨b, rfl, hc⟩ := HA.out k hkl
      obtain ⟨y, hy⟩ : ∃ y, l[k] = y := ⟨_, rfl⟩
      rw [hy] at hc
      obtain ⟨i1, i2⟩ := pt_int hlt
      have HY := Lib.hid hy; clear hy
      by_cases hxy : x = y
      · subst hxy
        go_wp2_with fail
        go_ret
        exact ⟨⟨_, rfl, iff_of_true (Int.natCast_nonneg k) (by rw [← HY.out]; exact List.getElem_mem hkl)⟩, rfl⟩
      · have hb : ((x : Int) == (y : Int)) = false := by simp; omega
        have HN2 := Lib.hid (show ¬ x ∈ l.take (k + 1) from by
          rw [List.take_succ_eq_append_getElem hkl, List.mem_append, List.mem_singleton, HY.out]
          exact fun h => h.elim HNO.out hxy)
        go_wp2_with fail
        go_roundg (n - (k + 1))
        case measure => omega
        case rel => exact ⟨k + 1, hlt, by rw [wrapS (k := k) (by have := HL.out; have := HN.out; unfold maxLen; omega)], rfl, HN2.out, rfl⟩
    · obtain rfl : k = n := by omega
      go_wp2_with fail
      go_ret
      refine ⟨⟨_, rfl, iff_of_false (by decide) ?_⟩, rfl⟩
      have h := HNO.out
      rwa [← HN.out, List.take_length] at h
theorem contains12_any (l : List Nat) (x : Nat) (a : Option Addr) (c : Nat) (w : World) (hl : l.length ≤ 4000000) (h : NatsAt w l a) :
    Calls Try.prog 106 #[.slice a l.length c, .int .i64 (x : Int)] w fun e w' => e = .returned (.bool (decide (x ∈ l))) ∧ w' = w := by
  have hi := index12_any l x a c w hl h
  clear hl h
  go_enter Try.func106, Try.ntmps106
  go_wp2_with fail
  refine hi.mono ?_
  rintro e w2 ⟨⟨k, rfl, hk⟩, rfl⟩
  have HK := Lib.hid hk; clear hk hi
  go_wp2_with fail
  go_ret
  exact ⟨by simp [HK.out], rfl⟩
/-- A level that is lowered. -/
def lowAt (H : List SNd) (v : Nat) (lv : Int) : List SNd := match H[v]? with | some d => H.set v { d with c := { d.c with level := min d.c.level lv } } | none => H
def lows (H : List SNd) (l : List Nat) (lv : Int) : List SNd := l.foldl (fun H v => lowAt H v lv) H
theorem lowAt_some {H : List SNd} {v : Nat} {d : SNd} (h : H[v]? = some d) (lv : Int) : lowAt H v lv = H.set v { d with c := { d.c with level := min d.c.level lv } } := by unfold lowAt; rw [h]
theorem lowAt_len (H : List SNd) (v : Nat) (lv : Int) : (lowAt H v lv).length = H.length := by unfold lowAt; split <;> simp
theorem lows_len (l : List Nat) (lv : Int) : ∀ H : List SNd, (lows H l lv).length = H.length := by
  induction l with
  | nil => intro H; rfl
  | cons v r ih => intro H; show (lows (lowAt H v lv) r lv).length = _; rw [ih, lowAt_len]
theorem lows_snoc (H : List SNd) (l : List Nat) (v : Nat) (lv : Int) : lows H (l ++ [v]) lv = lowAt (lows H l lv) v lv := by unfold lows; rw [List.foldl_append]; rfl
section
variable {B s g cap : Nat} {L C K : Int} {w : World} {H : List SNd}
set_option maxRecDepth 100000 in
set_option maxHeartbeats 2000000 in
theorem lower12_any (h : SV B s g cap L C K w H) (l : List Nat) (lv : Int) (a : Option Addr) (c : Nat) (hl : l.length ≤ 4000000) (ha : NatsAt w l a) (hab : ∀ b o, a = some ⟨b, o, none⟩ → b ≠ g ∧ b < w.heap.size) (hv : ∀ v ∈ l, v < H.length) :
    Calls Try.prog 107 #[.pointer (some ⟨s, 0, none⟩), .slice a l.length c, .int .i64 lv] w fun e w' => (∃ u, e = .returned u) ∧ SV B s g cap L C K w' (lows H l lv) ∧ Kp w.heap.size (fun k => k = g) w w' := by
  obtain ⟨n, hn⟩ : ∃ n, l.length = n := ⟨_, rfl⟩
  rw [hn]
  have HN := Lib.hid hn; have HL := Lib.hid hl; have HA := Lib.hid ha; have HAB := Lib.hid hab; have HV := Lib.hid hv; have HSV := Lib.hid h
  clear hn hl ha hab hv h
  go_enter Try.func107, Try.ntmps107
  go_wp2_with fail
  go_loopg [10] n (fun gk v wr => ∃ k : Nat, k ≤ n ∧ v = .int .i64 (k : Int) ∧ SV B s g cap L C K wr (lows H (l.take k) lv) ∧ Kp w.heap.size (fun k => k = g) w wr ∧ gk = n - k)
  case atStart => exact ⟨0, Nat.zero_le _, rfl, HSV.out, Kp.refl _ _ _, rfl⟩
  case round =>
    obtain ⟨k, hk, rfl, hsv, hkp, rfl⟩ := hrel
    have HSVK := Lib.hid hsv; have HKP := Lib.hid hkp; clear hsv hkp
    by_cases hlt : k < n
    · have hkl : k < l.length := by rw [HN.out]; exact hlt
      obtain ⟨b, rfl, hc⟩ := HA.out k hkl
      obtain ⟨hbg, hbw⟩ := HAB.out b 0 rfl
      have hc2 := HKP.out.cell hc hbw hbg
      obtain ⟨y, hy⟩ : ∃ y, l[k] = y := ⟨_, rfl⟩
      rw [hy] at hc2
      obtain ⟨i1, i2⟩ := pt_int hlt
      have hyl : y < (lows H (l.take k) lv).length := by rw [lows_len]; exact HV.out y (by rw [← hy]; exact List.getElem_mem hkl)
      obtain ⟨d, hd⟩ : ∃ d, (lows H (l.take k) lv)[y]? = some d := ⟨_, List.getElem?_eq_getElem hyl⟩
      obtain ⟨q0, q1⟩ := pt_int hyl
      obtain ⟨c0, c1, c2, c3⟩ := HSVK.out.sbox
      have cl := (HSVK.out.node hd).2.1
      have fl : wr.frozen? ⟨g, y * 6 + 1, none⟩ = false := HSVK.out.thaw _
      have hsay := HSVK.out.say hd { d.c with level := min d.c.level lv } (.int .i64 (min d.c.level lv)) (j := 1) (by omega) (fun u => rfl)
      rw [← lowAt_some hd, ← lows_snoc] at hsay
      have htk : l.take k ++ [y] = l.take (k + 1) := by rw [List.take_succ_eq_append_getElem hkl, hy]
      rw [htk] at hsay
      obtain ⟨N, hN⟩ : ∃ N, (lows H (l.take k) lv).length = N := ⟨_, rfl⟩
      rw [hN] at c2 q1
      have HSAY := Lib.hid hsay
      obtain ⟨dl, hdl⟩ : ∃ x, d.c.level = x := ⟨_, rfl⟩
      rw [hdl] at cl
      have HDL := Lib.hid hdl
      clear hsay htk hd hy hyl hc hbg hbw hN hdl
      go_upto_region 3 with fail
      have hmin : (if lv < dl then lv else dl) = min dl lv := by split <;> omega
      obtain ⟨V, hV⟩ : ∃ V, wr.setCell ⟨g, y * 6 + 1, none⟩ (.int .i64 (min d.c.level lv)) = V := ⟨_, rfl⟩
      have hkpV : Kp w.heap.size (fun k => k = g) w V := by rw [← hV]; exact HKP.out.setCell (.inr rfl) _
      have hsvV := HSAY.out
      rw [hV] at hsvV
      rw [HDL.out] at hV
      have HV2 := Lib.hid hV; have HKV := Lib.hid hkpV; have HSV2 := Lib.hid hsvV
      clear hV hkpV hsvV
      go_region_law (fail)
      all_goals
        try rw [hmin]
        rw [HV2.out]
        clear c0 c1 c2 c3 cl fl hc2 hmin q0 q1
        go_wp2_with fail
        go_roundg (n - (k + 1))
        case measure => omega
        case rel => exact ⟨k + 1, hlt, by rw [wrapS (k := k) (by have := HL.out; have := HN.out; unfold maxLen; omega)], HSV2.out.same rfl rfl, HKV.out.drew, rfl⟩
    · obtain rfl : k = n := by omega
      go_wp2_with fail
      go_end0
      refine ⟨⟨_, rfl⟩, ?_, HKP.out⟩
      have h := HSVK.out
      rwa [← HN.out, List.take_length] at h
end
end Go.Proofs.Yteolbbgnkbcfmaa
namespace Go.Proofs.Yteolbbgnkbcfmaa
open Go Go.RowKit
open Tp (T)
open Sg (Of Rt Den Dens Alk Mkd trav travs rootOf kidsOf)
theorem sv_link {B s g cap : Nat} {L C K : Int} {w : World} {H : List SNd} (h : SV B s g cap L C K w H) {v n : Nat} {d e : SNd} (hd : H[v]? = some d) (hdu : d.up = v) (he : H[n]? = some e) (heu : e.up = n) (hne : n ≠ v) : SV B s g cap L C K (w.setCell ⟨g, v * 6 + 4, none⟩ (.int .i64 (n : Int))) (Sg.link H v n) := by
  obtain ⟨G, hO, hown⟩ := h.row
  obtain ⟨d', hd', _⟩ := hO.get hd
  obtain ⟨e', he', _⟩ := hO.get he
  refine ⟨⟨G.set v { d' with up := n }, hO.link hd' ((hO.self hd' hd).2 hdu) he' ((hO.self he' he).2 heu) hne, nd_set hown hd' n⟩, ?_, h.lo⟩
  rw [Sg.link_len, Below.heap_setCell _ _ _ s h.far.2.2.2]
  exact h.box
theorem rootOf_some {H : List SNd} {p : Nat} {d : SNd} (h : H[p]? = some d) : rootOf H p = d.up := by unfold rootOf; rw [h]
theorem trav_root {H : List SNd} {t : T} {p q : Nat} (h : rootOf H p = rootOf H q) (Y : List Nat) : trav H t p Y = trav H t q Y := by
  cases t; simp only [trav]; rw [h]
theorem vars_valid {H : List SNd} {Y : List Nat} : ∀ v ∈ varsOf H Y, v < H.length := fun v hv => by
  have := (List.mem_filter.1 hv).2
  unfold isV at this
  cases h : H[v]? with
  | none => rw [h] at this; cases this
  | some d => exact (List.getElem?_eq_some_iff.1 h).1
theorem lowAt_get {H : List SNd} {i : Nat} {d : SNd} (v : Nat) (lv : Int) (h : H[i]? = some d) : ∃ d', (lowAt H v lv)[i]? = some d' ∧ d'.up = d.up ∧ d'.c.kind = d.c.kind ∧ d'.c.a = d.c.a ∧ d'.c.b = d.c.b ∧ d'.c.met = d.c.met ∧ d'.c.level = if i = v then min d.c.level lv else d.c.level := by
  cases hv : H[v]? with
  | none =>
    refine ⟨d, by unfold lowAt; rw [hv]; exact h, rfl, rfl, rfl, rfl, rfl, ?_⟩
    rw [if_neg (fun e => by subst e; rw [h] at hv; cases hv)]
  | some e =>
    rw [lowAt_some hv]
    by_cases hi : i = v
    · subst hi
      rw [h] at hv; injection hv with hv; subst hv
      exact ⟨_, Sg.set_same h, rfl, rfl, rfl, rfl, rfl, by rw [if_pos rfl]⟩
    · exact ⟨d, by rw [Sg.set_other _ hi]; exact h, rfl, rfl, rfl, rfl, rfl, by rw [if_neg hi]⟩
theorem lows_get (l : List Nat) (lv : Int) : ∀ {H : List SNd} {i : Nat} {d : SNd}, H[i]? = some d → ∃ d', (lows H l lv)[i]? = some d' ∧ d'.up = d.up ∧ d'.c.kind = d.c.kind ∧ d'.c.a = d.c.a ∧ d'.c.b = d.c.b ∧ d'.c.met = d.c.met ∧ d'.c.level = if i ∈ l then min d.c.level lv else d.c.level := by
  induction l with
  | nil => intro H i d h; exact ⟨d, h, rfl, rfl, rfl, rfl, rfl, by simp⟩
  | cons v r ih =>
    intro H i d h
    obtain ⟨d1, h1, a1, a2, a3, a4, a5, a6⟩ := lowAt_get v lv h
    obtain ⟨d2, h2, b1, b2, b3, b4, b5, b6⟩ := ih h1
    refine ⟨d2, h2, b1.trans a1, b2.trans a2, b3.trans a3, b4.trans a4, b5.trans a5, ?_⟩
    rw [b6, a6]
    by_cases hi : i = v
    · subst hi; simp
    · simp [hi]
/-- What Link hands back: a variable's root rp, a root rq. -/
def LkP (B s g cap : Nat) (L C K : Int) (H : List SNd) (rp rq : Nat) (kind lv : Int) (vs : List Nat) (w : World) (e : Ending) (w' : World) : Prop :=
  Kp w.heap.size (fun z => z = s ∨ z = g) w w' ∧
  if kind ≠ 6 ∨ rp = rq then e = .returned (.int .i64 1) ∧ SV B s g cap L C K w' H
  else ∃ H', Alk H H' ∧ (∀ d ∈ H', d.c.met ≤ K + 1) ∧ if rp ∈ vs then e = .returned (.int .i64 5) ∧ SV B s g cap L C (K + 1) w' H' else e = .returned (.int .i64 0) ∧ SV B s g cap L C (K + 1) w' (Sg.link (lows H' vs lv) rp rq)
section
variable {B s g cap : Nat} {L C K : Int} {w : World} {H : List SNd}
set_option maxRecDepth 100000 in
set_option maxHeartbeats 8000000 in
theorem link12_any (h : SV B s g cap L C K w H) (hm : ∀ d ∈ H, d.c.met ≤ K) (hK : 0 ≤ K ∧ K < 4611686018427387904) {p q : Nat} {dp rp dq : SNd} (hp : H[p]? = some dp) (hrp : H[dp.up]? = some rp) (hq : H[q]? = some dq) {t : T} (hD : Den H t q) (hsz : Tp.size t ≤ 1000000) :
    Calls Try.prog 54 #[.pointer (some ⟨s, 0, none⟩), .int .i64 (p : Int), .int .i64 (q : Int)] w (LkP B s g cap L C K H dp.up dq.up rp.c.kind rp.c.level (varsOf H (trav H t q [])) w) := by
  obtain ⟨W1, hW1⟩ : ∃ W, w.alloc (.cells #[.int .i64 (p : Int), .int .i64 (q : Int)] 3) = W := ⟨_, rfl⟩
  have hb1 : Below w.heap.size w W1 := by rw [← hW1]; exact (Below.refl _ _).alloc (Nat.le_refl _) _
  have hx1 : W1.heap[w.heap.size]? = some (.cells #[.int .i64 (p : Int), .int .i64 (q : Int)] 3) := by rw [← hW1]; exact World.alloc_heap_new w _
  have hpl := (List.getElem?_eq_some_iff.1 hp).1
  have hql := (List.getElem?_eq_some_iff.1 hq).1
  have h1 := h.below hb1
  have hhv := have12_any h1 [(p : Int), (q : Int)] (some ⟨w.heap.size, 0, none⟩) 2 (by unfold maxLen; simp) (fun i hi => by
    have h2 : i < 2 := by simpa using hi
    match i, h2 with
    | 0, _ => exact ⟨_, _, rfl, cell_box hx1 rfl rfl⟩
    | 1, _ => exact ⟨_, _, rfl, cell_box hx1 rfl rfl⟩)
  rw [show [(p : Int), (q : Int)].all (okN H.length) = true from by unfold okN; simp; omega] at hhv
  have hkd := fun x (hx : SV B s g cap L C K x H) => kind12_any hx hp hrp
  have hr1 := fun x (hx : SV B s g cap L C K x H) => root12_any hx hp
  have hr2 := fun x (hx : SV B s g cap L C K x H) => root12_any hx hq
  obtain ⟨a, ha⟩ : ∃ a, dp.up = a := ⟨_, rfl⟩
  obtain ⟨b, hb⟩ : ∃ a, dq.up = a := ⟨_, rfl⟩
  obtain ⟨kk, hkk⟩ : ∃ k, rp.c.kind = k := ⟨_, rfl⟩
  obtain ⟨lv, hlv⟩ : ∃ k, rp.c.level = k := ⟨_, rfl⟩
  simp only [ha] at hr1 hrp ⊢
  simp only [hb] at hr2 ⊢
  simp only [hkk] at hkd ⊢
  simp only [hlv]
  have HHV := Lib.hid hhv; have HW1 := Lib.hid hW1; have HB1 := Lib.hid hb1; have HSV := Lib.hid h1; have HM := Lib.hid hm; have HK := Lib.hid hK; have HKD := Lib.hid hkd; have HR1 := Lib.hid hr1; have HR2 := Lib.hid hr2; have HA := Lib.hid ha; have HB := Lib.hid hb; have HKK := Lib.hid hkk; have HLV := Lib.hid hlv; have HP := Lib.hid hp; have HRP := Lib.hid hrp; have HQ := Lib.hid hq; have HD := Lib.hid hD; have HSZ := Lib.hid hsz
  clear hhv hW1 hb1 hx1 h1 hm hK hkd hr1 hr2 ha hb hkk hlv hp hrp hq hD hsz hpl hql h
  go_enter Try.func54, Try.ntmps54
  go_upto_region 1 with fail
  go_wp2_with fail
  rw [HW1.out]
  refine HHV.out.mono ?_
  rintro e w2 ⟨rfl, rfl⟩
  go_wp2_with fail
  refine (HKD.out _ HSV.out).mono ?_
  rintro e w3 ⟨rfl, hsv, hk⟩
  have HSV3 := Lib.hid hsv; have HK3 := Lib.hid ((Kp.of_below (M := fun z => z = s ∨ z = g) HB1.out).trans ((hk.mono HB1.out.size (fun _ _ h => .inr h))))
  clear hsv hk
  by_cases h6 : kk = 6
  · have h6b : (kk != 6) = false := by simp [h6]
    go_wp2_with fail
    refine (HR1.out _ HSV3.out).mono ?_
    rintro e w4 ⟨rfl, hsv, hk⟩
    have HSV4 := Lib.hid hsv; have HK4 := Lib.hid (HK3.out.trans (hk.mono HK3.out.size (fun _ _ h => .inr h)))
    clear hsv hk
    go_wp2_with fail
    refine (HR2.out _ HSV4.out).mono ?_
    rintro e w5 ⟨rfl, hsv, hk⟩
    have HSV5 := Lib.hid hsv; have HK5 := Lib.hid (HK4.out.trans (hk.mono HK4.out.size (fun _ _ h => .inr h)))
    clear hsv hk
    by_cases hab : a = b
    · have habb : ((a : Int) == (b : Int)) = true := by simp [hab]
      have HAB := Lib.hid hab; clear hab
      go_wp2_with fail
      go_ret
      refine ⟨HK5.out, ?_⟩
      rw [if_pos (.inr HAB.out)]
      exact ⟨rfl, HSV5.out⟩
    · have habb : ((a : Int) == (b : Int)) = false := by simp; omega
      have HAB := Lib.hid hab; have H6 := Lib.hid h6; clear hab h6
      have hdr := HD.out.root
      rw [rootOf_some HQ.out, HB.out] at hdr
      have htr := trav_root (H := H) (t := t) (p := b) (q := q) (by rw [hdr.2, rootOf_some HQ.out, HB.out]) []
      obtain ⟨eb, heb, hebu⟩ : ∃ e, H[b]? = some e ∧ e.up = b := by
        obtain ⟨G, hO, _⟩ := HSV.out.row
        obtain ⟨e, h1, h2⟩ := hO.root HQ.out
        rw [HB.out] at h1 h2; exact ⟨e, h1, h2⟩
      have hrau : rp.up = a := by
        obtain ⟨G, hO, _⟩ := HSV.out.row
        obtain ⟨e, h1, h2⟩ := hO.root HP.out
        rw [HA.out] at h1 h2; rw [HRP.out] at h1; injection h1 with h1; rw [h1]; exact h2
      have hvl : (varsOf H (trav H t q [])).length ≤ 4000000 := by
        have h1 : (varsOf H (trav H t q [])).length ≤ (trav H t q []).length := List.length_filter_le _ _
        have h2 := trav_len (H := H) t q []
        have := HSZ.out
        simp only [List.length_nil] at h2; omega
      have hva := fun x (hx : SV B s g cap L C K x H) => vars12_any hx HM.out HK.out hdr.1 HSZ.out
      rw [htr] at hva
      obtain ⟨vs, hvs⟩ : ∃ x, varsOf H (trav H t q []) = x := ⟨_, rfl⟩
      simp only [hvs] at hva hvl ⊢
      have HVA := Lib.hid hva; have HVL := Lib.hid hvl; have HVS := Lib.hid hvs; have HEB := Lib.hid heb; have HEBU := Lib.hid hebu; have HRAU := Lib.hid hrau
      clear hdr htr heb hebu hrau hvl hva hvs
      go_upto_region 3 with fail
      go_wp2_with fail
      refine (HR1.out _ HSV5.out).mono ?_
      rintro e w6 ⟨rfl, hsv, hk⟩
      have HSV6 := Lib.hid hsv; have HK6 := Lib.hid (HK5.out.trans (hk.mono HK5.out.size (fun _ _ h => .inr h)))
      clear hsv hk
      go_wp2_with fail
      refine (HR2.out _ HSV6.out).mono ?_
      rintro e w7 ⟨rfl, hsv, hk⟩
      have HSV7 := Lib.hid hsv; have HK7 := Lib.hid (HK6.out.trans (hk.mono HK6.out.size (fun _ _ h => .inr h)))
      clear hsv hk
      go_upto_region 4 with fail
      go_wp2_with fail
      refine (HVA.out _ HSV7.out).mono ?_
      rintro e w8 ⟨v, H', rfl, hown, hsv, hal, hmt, hk⟩
      obtain ⟨va, vc, rfl, hna, hvb⟩ := nats_own hown
      have hgl := HSV7.out.far.2.1
      have HSV8 := Lib.hid hsv; have HK8 := Lib.hid (HK7.out.trans (hk.mono HK7.out.size (fun _ _ h => h))); have HAL := Lib.hid hal; have HMT := Lib.hid hmt; have HNA := Lib.hid hna; have HVB := Lib.hid hvb; have HGL := Lib.hid hgl
      clear hsv hk hal hmt hown hna hvb hgl
      have hct := contains12_any vs a va vc w8 HVL.out HNA.out
      have HCT := Lib.hid hct; clear hct
      go_upto_region 5 with fail
      go_wp2_with fail
      refine HCT.out.mono ?_
      rintro e w9 ⟨rfl, rfl⟩
      by_cases hin : a ∈ vs
      · have hdb : decide (a ∈ vs) = true := by simp [hin]
        have HIN := Lib.hid hin; clear hin
        rw [hdb]
        go_wp2_with fail
        go_ret
        refine ⟨HK8.out, ?_⟩
        rw [if_neg (by rintro (h | h); exact h H6.out; exact HAB.out h)]
        refine ⟨H', HAL.out, HMT.out, ?_⟩
        rw [HVS.out, if_pos HIN.out]
        exact ⟨rfl, HSV8.out⟩
      · have hdb : decide (a ∈ vs) = false := by simp [hin]
        have HIN := Lib.hid hin; clear hin
        rw [hdb]
        clear hdb
        obtain ⟨ra, hra, e1, e2, e3, _⟩ := HAL.out.get HRP.out
        obtain ⟨rb, hrb, f1, _⟩ := HAL.out.get HEB.out
        have hal9 := (List.getElem?_eq_some_iff.1 hra).1
        obtain ⟨i1, i2⟩ := pt_int hal9
        obtain ⟨c0, c1, c2, c3⟩ := HSV8.out.sbox
        have cl := (HSV8.out.node hra).2.1
        rw [e3, HLV.out] at cl
        have hlw := lower12_any HSV8.out vs lv va vc HVL.out HNA.out (fun b' o e => ⟨by have := (HVB.out b' o e).1; have := HGL.out; omega, (HVB.out b' o e).2⟩) (fun v hv => by rw [← HAL.out.len]; exact vars_valid v (by rw [HVS.out]; exact hv))
        have HLW := Lib.hid hlw
        obtain ⟨la, hla, g1, _⟩ := lows_get vs lv hra
        obtain ⟨lb, hlb, g2, _⟩ := lows_get vs lv hrb
        have HLA := Lib.hid hla; have HLB := Lib.hid hlb; have G1 := Lib.hid (g1.trans (e1.trans HRAU.out)); have G2 := Lib.hid (g2.trans (f1.trans HEBU.out))
        clear hlw hla hlb g1 g2 e1 e2 e3 f1 hra hrb hal9
        go_upto_region 7 with fail
        go_wp2_with fail
        refine HLW.out.mono ?_
        clear c0 c1 c2 c3 cl
        rintro e w10 ⟨⟨u, rfl⟩, hsv, hk⟩
        have HSV10 := Lib.hid hsv; have HK10 := Lib.hid (HK8.out.trans (hk.mono HK8.out.size (fun _ _ h => .inr h)))
        clear hsv hk
        obtain ⟨c0, c1, c2, c3⟩ := HSV10.out.sbox
        rw [lows_len] at c2
        obtain ⟨u0, cu⟩ : ∃ u0, w10.cell? ⟨g, a * 6 + 4, none⟩ = some u0 := by
          obtain ⟨G, hO, hown⟩ := HSV10.out.row
          obtain ⟨gd, hgd, _⟩ := hO.get HLA.out
          exact ⟨_, (nd_cells hown hgd).2.2.2.2.1⟩
        have fu : w10.frozen? ⟨g, a * 6 + 4, none⟩ = false := HSV10.out.thaw _
        have hlk := sv_link HSV10.out HLA.out G1.out HLB.out G2.out (fun e => HAB.out e.symm)
        have HLK := Lib.hid hlk; clear hlk
        go_upto_region 8 with fail
        go_wp2_with fail
        go_ret
        refine ⟨HK10.out.setCell (.inr (.inr rfl)) _, ?_⟩
        rw [if_neg (by rintro (h | h); exact h H6.out; exact HAB.out h)]
        refine ⟨H', HAL.out, HMT.out, ?_⟩
        rw [HVS.out, if_neg HIN.out]
        exact ⟨rfl, HLK.out⟩
  · have h6b : (kk != 6) = true := by simp [h6]
    have H6 := Lib.hid h6; clear h6
    go_wp2_with fail
    go_ret
    refine ⟨HK3.out, ?_⟩
    rw [if_pos (.inl H6.out)]
    exact ⟨rfl, HSV3.out⟩
end
end Go.Proofs.Yteolbbgnkbcfmaa
