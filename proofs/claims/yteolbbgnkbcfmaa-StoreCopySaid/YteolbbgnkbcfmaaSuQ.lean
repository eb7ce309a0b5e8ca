/- StoreCopy's put: leaves in the place of variables. StoreCopy: what the copy comes to, plainly. -/
import Derived.Test.YteolbbgnkbcfmaaSuO
import Derived.Test.YteolbbgnkbcfmaaTrA
import Derived.Test.YteolbbgnkbcfmaaAgL
import Derived.Deep.QuietTactic
import Derived.Test.YteolbbgnkbcfmaaSuA
namespace Go.Proofs.Yteolbbgnkbcfmaa
open Go Go.RowKit
open Tp (T)
/-- The first number's replacement. -/
def fnd : List Nat → List Nat → IMap
  | f :: fs, t :: ts => fun i => if i = ((f : Nat) : Int) then some t else fnd fs ts i
  | _, _ => fun _ => none
theorem fnd_at : ∀ {fs ts : List Nat} {k : Nat} (h1 : k < fs.length) (h2 : k < ts.length), (∀ j (hj : j < fs.length), j < k → ((fs[j] : Nat) : Int) ≠ ((fs[k] : Nat) : Int)) → fnd fs ts ((fs[k] : Nat) : Int) = some ts[k]
  | f :: fs, t :: ts, 0, _, _, _ => by unfold fnd; rw [if_pos (by rfl)]; rfl
  | f :: fs, t :: ts, k + 1, h1, h2, h => by
    unfold fnd
    rw [if_neg (fun e => h 0 (by simp) (by omega) e.symm)]
    exact fnd_at (by simpa using h1) (by simpa using h2) (fun j hj hjk => h (j + 1) (by simpa using hj) (by omega))
theorem fnd_none : ∀ {fs ts : List Nat} {i : Int}, (∀ j (hj : j < fs.length), ((fs[j] : Nat) : Int) ≠ i) → fnd fs ts i = none
  | [], _, _, _ => by unfold fnd; rfl
  | _ :: _, [], _, _ => by unfold fnd; rfl
  | f :: fs, t :: ts, i, h => by
    unfold fnd
    rw [if_neg (fun e => h 0 (by simp) e.symm)]
    exact fnd_none (fun j hj => h (j + 1) (by simpa using hj))
theorem putRs_map (M0 : IMap) : ∀ l : List T, putRs M0 l = l.map (putR M0)
  | [] => rfl
  | t :: r => by simp [putRs, putRs_map M0 r]
theorem putR_var {M0 : IMap} {t : T} {e : Nat} (h : t.kind = 6) (he : M0 t.num = some e) : putR M0 t = .mk ((e : Int) + 1) 0 [] := by
  cases t; simp only [Tp.T.kind, Tp.T.num] at h he; rw [putR, if_pos h, he]
theorem putR_node {M0 : IMap} {t : T} (h : t.kind = 6 → M0 t.num = none) : putR M0 t = .mk t.kind t.num (t.kids.map (putR M0)) := by
  cases t with
  | mk k n l =>
    simp only [Tp.T.kind, Tp.T.num, Tp.T.kids] at h ⊢
    rw [putR]
    split
    · rename_i h6; rw [h h6]; simp [putRs_map]
    · simp [putRs_map]
def PuPost (x : T) (k n : Int) (m : Nat) (wr : World) (e : Ending) (w' : World) : Prop := ∃ a2 c2, e = .returned (.agg #[.int .i64 k, .int .i64 n, .slice a2 m c2]) ∧ TyAt (fun b => wr.heap.size ≤ b ∧ b < w'.heap.size) w' x a2 c2 ∧ Below wr.heap.size wr w'
theorem puPost_ret {x : T} {k n : Int} {m : Nat} {wr : World} : ∀ e w', PuPost x k n m wr e w' → ∃ v, e = .returned v := fun _ _ ⟨_, _, h, _⟩ => ⟨_, h⟩
theorem zero3 {W : World} {b : Nat} {x y z : Value} {ty : TypeId} (h : W.heap[b]? = some (.cells #[x, y, z] ty)) : W.cell? ⟨b, 0, none⟩ = some x ∧ W.cell? ⟨b, 1, none⟩ = some y ∧ W.cell? ⟨b, 2, none⟩ = some z ∧ ∀ j, W.frozen? ⟨b, j, none⟩ = false := ⟨cell_box h rfl rfl, cell_box h rfl rfl, cell_box h rfl rfl, fun j => by simp [World.frozen?, h]⟩
set_option maxRecDepth 100000 in
set_option maxHeartbeats 4000000 in
theorem put_any (fs ts : List Nat) (fa ta : Option Addr) (fc tc B0 : Nat) (hlen : fs.length = ts.length) (hl : fs.length ≤ 1000) (ht5 : ∀ x ∈ ts, x < 5)
    (hfb : ∀ b o, fa = some ⟨b, o, none⟩ → b < B0) (htb : ∀ b o, ta = some ⟨b, o, none⟩ → b < B0) : ∀ (n : Nat) (t : T) (a : Option Addr) (cap : Nat) (w : World), Tp.size t ≤ n → Tp.size t ≤ 10000 → TyAt (LT w.heap.size) w t a cap → NatsAt w fs fa → NatsAt w ts ta → B0 ≤ w.heap.size →
    Calls Try.prog 31 #[tv t a cap, .slice fa fs.length fc, .slice ta ts.length tc] w (KidPost (putR (fnd fs ts) t) w) := by
  intro n
  induction n with
  | zero => intro t a cap w h; have := Tp.size_pos t; omega
  | succ n ih =>
    intro t a cap w hn hs hty hnf hnt hB0
    have hm10 : t.kids.length ≤ 10000 := by have := Tp.length_le_sizes t.kids; have := size_kids t; omega
    have hi64 : I64 t.kind ∧ I64 t.num := ⟨hty.1, hty.2.1⟩
    obtain ⟨N, hN⟩ : ∃ N, fs.length = N := ⟨_, rfl⟩
    have hN2 : ts.length = N := hlen.symm.trans hN
    have HI := Lib.hid hi64; have HN1 := Lib.hid hN; have HN2 := Lib.hid hN2; clear hi64
    have HN := Lib.hid hn; have HS := Lib.hid hs; have HTY := Lib.hid hty; have IH := Lib.hid ih; have HNF := Lib.hid hnf; have HNT := Lib.hid hnt; have HB0 := Lib.hid hB0; have HL := Lib.hid hl; have HT5 := Lib.hid ht5; have HFB := Lib.hid hfb; have HTB := Lib.hid htb
    clear hn hs hty ih hnf hnt hB0
    obtain ⟨m, hm⟩ : ∃ m, t.kids.length = m := ⟨_, rfl⟩
    obtain ⟨kk, hkk⟩ : ∃ kk, t.kind = kk := ⟨_, rfl⟩
    obtain ⟨nn, hnn⟩ : ∃ kk, t.num = kk := ⟨_, rfl⟩
    unfold tv
    rw [hm] at hm10 ⊢
    rw [hkk, hnn, hN, hN2]
    have HM := Lib.hid hm; have HKK := Lib.hid hkk; have HNN := Lib.hid hnn; clear hm hkk hnn
    obtain ⟨W2, hW2⟩ : ∃ W2, (w.alloc (.cells #[.int .i64 kk, .int .i64 nn, .slice a m cap] 26)).alloc (.cells #[.int .i64 0, .int .i64 0, .slice none 0 0] 26) = W2 := ⟨_, rfl⟩
    have hw2 : Below w.heap.size w W2 := by rw [← hW2]; exact ((Below.refl _ _).alloc (Nat.le_refl _) _).alloc (by simp) _
    have hs2 : W2.heap.size = w.heap.size + 2 := by rw [← hW2]; simp
    have hx1 : W2.heap[w.heap.size]? = some (.cells #[.int .i64 kk, .int .i64 nn, .slice a m cap] 26) := by rw [← hW2]; exact box1 _ _ _ _ _
    have hx2 : W2.heap[w.heap.size + 1]? = some (.cells #[.int .i64 0, .int .i64 0, .slice none 0 0] 26) := by rw [← hW2]; exact box2 _ _ _ _ _
    have HW2 := Lib.hid hW2; have HB2 := Lib.hid hw2; have HS2 := Lib.hid hs2; have HX1 := Lib.hid hx1; have HX2 := Lib.hid hx2
    clear hW2 hw2 hs2 hx1 hx2 hN hN2 hlen hl ht5 hfb htb
    go_enter Try.func31, Try.ntmps31
    go_upto_region 2 with fail
    rw [HW2.out]
    go_loopg [7] N (fun gk v wr => ∃ k : Nat, k ≤ N ∧ v = .int .i64 (k : Int) ∧ Below W2.heap.size W2 wr ∧ (kk = 6 → ∀ j (hj : j < fs.length), j < k → ((fs[j] : Nat) : Int) ≠ nn) ∧ (kk ≠ 6 → k = 0) ∧ gk = N - k)
    case atStart => exact ⟨0, Nat.zero_le _, rfl, Below.refl _ _, fun _ j _ h => by omega, fun _ => rfl, rfl⟩
    case round =>
      obtain ⟨k, hkN, rfl, hbw, hsr, hk0, rfl⟩ := hrel
      have hzb := hbw.size
      have hbt := (hbw.block w.heap.size (by rw [HS2.out]; omega)).trans HX1.out
      have hbr := (hbw.block (w.heap.size + 1) (by rw [HS2.out]; omega)).trans HX2.out
      have hww := HB2.out.trans (hbw.mono (by rw [HS2.out]; omega))
      have c0 : wr.cell? ⟨w.heap.size, 0, none⟩ = some (.int .i64 kk) := cell_box hbt rfl rfl
      have c1 : wr.cell? ⟨w.heap.size, 1, none⟩ = some (.int .i64 nn) := cell_box hbt rfl rfl
      have HBT := Lib.hid hbt; have HBR := Lib.hid hbr; have HWW := Lib.hid hww; have HZB := Lib.hid hzb; have HBW2 := Lib.hid hbw
      clear hbt hbr hww hzb hbw
      by_cases hex : k < N ∧ kk = 6
      · obtain ⟨hlt, h6⟩ := hex
        have g6 : (kk == 6) = true := by simp [h6]
        obtain ⟨i1, i2⟩ := pt_int hlt
        have hkf : k < fs.length := by rw [HN1.out]; exact hlt
        have hkt : k < ts.length := by rw [HN2.out]; exact hlt
        obtain ⟨fb, rfl, hcf⟩ := HNF.out k hkf
        obtain ⟨tb, rfl, hct⟩ := HNT.out k hkt
        obtain ⟨f, hf⟩ : ∃ q, fs[k] = q := ⟨_, rfl⟩
        obtain ⟨g, hg⟩ : ∃ q, ts[k] = q := ⟨_, rfl⟩
        have hg5 : g < 5 := by rw [← hg]; exact HT5.out _ (List.getElem_mem hkt)
        have hfl := HFB.out fb 0 rfl
        have htl := HTB.out tb 0 rfl
        have hb0 := HB0.out
        have hfnd : ((f : Nat) : Int) = nn → fnd fs ts nn = some g := fun e => by
          have h9 := fnd_at hkf hkt (fun j hj hjk => by rw [hf, e]; exact hsr h6 j hj hjk)
          rw [hf, hg, e] at h9; exact h9
        have hstep : ((f : Nat) : Int) ≠ nn → ∀ j (hj : j < fs.length), j < k + 1 → ((fs[j] : Nat) : Int) ≠ nn := fun hne j hj hjk => by
          by_cases e : j = k
          · subst e; rw [hf]; exact hne
          · exact hsr h6 j hj (by omega)
        rw [hf] at hcf
        rw [hg] at hct
        have c5 : wr.cell? ⟨fb, k, none⟩ = some (.int .i64 (f : Int)) := (World.cell?_of_block (a := ⟨fb, k, none⟩) (HWW.out.block fb (by omega))).trans hcf
        have HFND := Lib.hid hfnd; have HSTEP := Lib.hid hstep; have HCT := Lib.hid hct; have HTL := Lib.hid htl; have HG5 := Lib.hid hg5; have H6 := Lib.hid h6
        have HWK := Lib.hid (show wrap64 ((k : Int) + 1) = ((k + 1 : Nat) : Int) by have := HL.out; have := HN1.out; unfold wrap64; omega)
        clear hf hg hg5 hfl htl hb0 hfnd hstep hcf hct hkf hkt hsr hk0 h6
        go_upto_region 4 with fail
        go_cut [27] from 200 (fun v wx => v = .bool ((f : Int) == nn) ∧ Below wr.heap.size wr wx)
        case first =>
          by_cases hfn : (f : Int) = nn
          · have hb : ((f : Int) == nn) = true := by simp [hfn]
            go_quiet (fail)
            go_wp2_with fail
            go_meet
            case rel => exact ⟨by rw [hb], ⟨rfl, rfl, rfl, Nat.le_refl _, fun _ _ => rfl⟩⟩
          · have hb : ((f : Int) == nn) = false := by simp [hfn]
            go_quiet (fail)
            go_wp2_with fail
            go_meet
            case rel => exact ⟨by rw [hb], ⟨rfl, rfl, rfl, Nat.le_refl _, fun _ _ => rfl⟩⟩
        case rest =>
        obtain ⟨rfl, hbc⟩ := hcut
        obtain ⟨w4, hw4⟩ : ∃ x, wc = x := ⟨_, rfl⟩
        rw [hw4] at hbc ⊢
        have HBC := Lib.hid hbc
        clear hw4 wc hbc c0 c1 c5
        by_cases hfn : (f : Int) = nn
        · have hb : ((f : Int) == nn) = true := by simp [hfn]
          rw [hb]
          have HFD := Lib.hid (HFND.out hfn)
          clear hfn hb
          have hww4 := HWW.out.trans (HBC.out.mono HWW.out.size)
          have hbr4 := (HBC.out.block _ (Array.getElem?_eq_some_iff.1 HBR.out).1).trans HBR.out
          have c6 : w4.cell? ⟨tb, k, none⟩ = some (.int .i64 (g : Int)) := (World.cell?_of_block (a := ⟨tb, k, none⟩) (hww4.block tb (by have := HTL.out; have := HB0.out; omega))).trans HCT.out
          have hwg : wrap64 ((g : Int) + 1) = (g : Int) + 1 := by have := HG5.out; unfold wrap64; omega
          have HWW4 := Lib.hid hww4; have HBR4 := Lib.hid hbr4
          clear hww4 hbr4
          go_wp2_with (go_at_call 55; refine (leaf_any ((g : Int) + 1) w4).mono ?_; clear c6; rintro e w5 ⟨rfl, hb5⟩; obtain ⟨z0, z1, z2, zf⟩ := zero3 ((hb5.block (w.heap.size + 1) (Array.getElem?_eq_some_iff.1 HBR4.out).1).trans HBR4.out); have f0 := zf 0; have f1 := zf 1; have f2 := zf 2; have HB5 := Lib.hid (HWW4.out.trans (hb5.mono HWW4.out.size)); clear hb5 zf)
          refine bodyPost_ret (v := .agg #[.int .i64 ((g : Int) + 1), .int .i64 0, .slice none 0 0]) (by simp [results, Try.f31, go_sem, z0, z1, z2]) rfl ?_
          rw [putR_var (HKK.out.trans H6.out) (by rw [HNN.out]; exact HFD.out)]
          exact ⟨none, 0, rfl, leaf_at (by have := HG5.out; unfold I64; omega), ((HB5.out.setCell (by dsimp only; omega) _).setCell (by dsimp only; omega) _).setCell (by dsimp only; omega) _⟩
        · have hb : ((f : Int) == nn) = false := by simp [hfn]
          rw [hb]
          have HST := Lib.hid (HSTEP.out hfn)
          clear hfn hb
          have hwk := HWK.out
          go_wp2_with fail
          go_roundg (N - (k + 1))
          case measure => omega
          case rel => exact ⟨k + 1, hlt, congrArg (Value.int .i64) HWK.out, HBW2.out.tr HBC.out (Nat.le_refl _), fun _ => HST.out, fun h => absurd H6.out h, rfl⟩
      · have hnone : kk = 6 → fnd fs ts nn = none := fun h => fnd_none (fun j hj => hsr h j hj (by have := HN1.out; rcases Nat.lt_or_ge k N with h9 | h9; exact absurd ⟨h9, h⟩ hex; omega))
        have HNONE := Lib.hid hnone
        clear hnone
        by_cases hlt : k < N
        · have g6 : (kk == 6) = false := by simp; exact fun h => hex ⟨hlt, h⟩
          obtain ⟨i1, i2⟩ := pt_int hlt
          clear hex hsr hk0
          have HFN := Lib.hid (show kk = 6 → fnd fs ts nn = none from fun h => HNONE.out h)
          go_upto_region 7 with fail
          clear c0 c1
          obtain ⟨b8, hb8⟩ : ∃ q, wr.heap.size = q := ⟨_, rfl⟩
          obtain ⟨U, hU⟩ : ∃ W, wr.alloc (.cells #[.int .i64 kk, .int .i64 nn, .slice none 0 0] 26) = W := ⟨_, rfl⟩
          rw [hU, hb8]
          have hub : Below wr.heap.size wr U := by rw [← hU]; exact (Below.refl _ _).alloc (Nat.le_refl _) _
          have hub8 : U.heap[b8]? = some (.cells #[.int .i64 kk, .int .i64 nn, .slice none 0 0] 26) := by rw [← hU, ← hb8]; exact World.alloc_heap_new _ _
          have huz : U.heap.size = b8 + 1 := by rw [← hU, World.size_alloc, hb8]
          have HUT := Lib.hid ((hub.block _ (Array.getElem?_eq_some_iff.1 HBT.out).1).trans HBT.out); have HUR := Lib.hid ((hub.block _ (Array.getElem?_eq_some_iff.1 HBR.out).1).trans HBR.out); have HUU := Lib.hid hub8; have HUW := Lib.hid (HWW.out.trans (hub.mono HWW.out.size)); have HUZ := Lib.hid huz
          have HB8 := Lib.hid (show w.heap.size + 2 ≤ b8 by have := HZB.out; rw [HS2.out, hb8] at this; exact this)
          clear hU hub hub8 huz hb8
          go_wp2_with fail
          go_loopg [9] m (fun gk i wr => ∃ (k : Nat) (ks : List Ke) (v : Value), k ≤ m ∧ i = .int .i64 k ∧ ks.map Ke.t = (t.kids.take k).map (putR (fnd fs ts)) ∧ RowK (b8 + 1) wr v ks ∧ wr.heap[w.heap.size]? = some (.cells #[.int .i64 kk, .int .i64 nn, .slice a m cap] 26) ∧ wr.heap[w.heap.size + 1]? = some (.cells #[.int .i64 0, .int .i64 0, .slice none 0 0] 26) ∧
            wr.heap[b8]? = some (.cells #[.int .i64 kk, .int .i64 nn, v] 26) ∧ Below w.heap.size w wr ∧ b8 + 1 ≤ wr.heap.size ∧ gk = m - k)
          case atStart => exact ⟨0, [], _, Nat.zero_le _, rfl, by simp, RowK.nil _ _, HUT.out, HUR.out, HUU.out, HUW.out, by rw [HUZ.out]; exact Nat.le_refl _, rfl⟩
          case round =>
            obtain ⟨k, ks, v, hk, rfl, hks, hrow, hbt, hbr, hbu, hbw, hsz, rfl⟩ := hrel
            obtain ⟨V0, hV0⟩ : ∃ x : World, x = wr := ⟨_, rfl⟩
            subst hV0
            have hkl : ks.length = k := by have := congrArg List.length hks; rw [List.length_map, List.length_map, List.length_take, HM.out] at this; omega
            obtain ⟨va, vcap, rfl⟩ := own_shapeT hrow.own
            rw [hkl] at hrow hbu
            have cu : V0.cell? ⟨b8, 2, none⟩ = some (.slice va k vcap) := cell_box hbu rfl rfl
            have cu0 : V0.cell? ⟨b8, 0, none⟩ = some (.int .i64 kk) := cell_box hbu rfl rfl
            have cu1 : V0.cell? ⟨b8, 1, none⟩ = some (.int .i64 nn) := cell_box hbu rfl rfl
            obtain ⟨cr0, cr1, cr2, crf⟩ := zero3 hbr
            have fr0 := crf 0; have fr1 := crf 1; have fr2 := crf 2
            have ct : V0.cell? ⟨w.heap.size, 2, none⟩ = some (.slice a m cap) := cell_box hbt rfl rfl
            have HKS := Lib.hid hks; have HROW := Lib.hid hrow; have HBT9 := Lib.hid hbt; have HBR9 := Lib.hid hbr; have HBU := Lib.hid hbu; have HBW := Lib.hid hbw; have HSZ := Lib.hid hsz; have HKL := Lib.hid hkl
            clear hks hrow hbt hbr hbu hbw hsz hkl crf
            by_cases hltk : k < m
            · have hkk : k < t.kids.length := by rw [HM.out]; exact hltk
              obtain ⟨b, o, xa, xcap, rfl, hbn, hx, x0, x1, x2⟩ := kid_at HTY.out HBW.out (Nat.le_refl _) hkk
              have hsk := size_kid t.kids k hkk
              have hss := size_kids t
              have htk : t.kids.take (k + 1) = t.kids.take k ++ [t.kids[k]] := List.take_succ_eq_append_getElem hkk
              have hcall := IH.out t.kids[k] xa xcap V0.drew (by have := HN.out; omega) (by have := HS.out; omega) (hx.below ((Below.refl V0.heap.size V0).drew) (fun _ h => h) (fun _ h => h)) (NatsAt.stay HNF.out (fun b o e => HBW.out.block b (Nat.lt_of_lt_of_le (HFB.out b o e) HB0.out))) (NatsAt.stay HNT.out (fun b o e => HBW.out.block b (Nat.lt_of_lt_of_le (HTB.out b o e) HB0.out))) (Nat.le_trans HB0.out HBW.out.size)
              rw [HN1.out, HN2.out] at hcall
              obtain ⟨y, hy'⟩ : ∃ x, t.kids[k] = x := ⟨_, rfl⟩
              rw [hy'] at x0 x1 x2 hcall htk
              obtain ⟨xk, xn, xm, hvy⟩ := TV.mk y
              rw [hvy.1] at x0; rw [hvy.2.1] at x1; rw [hvy.2.2] at x2
              rw [tv_of hvy] at hcall
              obtain ⟨x, hx'⟩ : ∃ x, putR (fnd fs ts) y = x := ⟨_, rfl⟩
              rw [hx'] at hcall
              obtain ⟨rk, rn, rm, hvr⟩ := TV.mk x
              have hcall2 : Calls Try.prog 31 #[.agg #[.int .i64 xk, .int .i64 xn, .slice xa xm xcap], .slice fa N fc, .slice ta N tc] V0.drew (PuPost x rk rn rm V0) := by
                refine hcall.mono fun e w' hp => ?_
                obtain ⟨a2, c2, h1, h2, h6⟩ := hp
                exact ⟨a2, c2, by rw [h1, tv_of hvr], h2, h6.os, h6.tape, h6.output, h6.size, h6.block⟩
              have HC := Lib.hid hcall2; have HTK := Lib.hid htk; have HVR := Lib.hid hvr; have HXE := Lib.hid hx'; have HYE := Lib.hid hy'
              clear hcall hcall2 htk hx hx' hy' hsk hss hvy hvr
              obtain ⟨i0, hi, hz0, hz1, hz2⟩ := info_parts info_ty
              have hb40 := b40 (Nat.le_trans (Nat.le_of_lt hltk) hm10)
              have HB40 := Lib.hid hb40; clear hb40
              go_wp2_with fail
              go_region_law (first
                | (refine step_call ?_ 31 #[.tmp 52, .tmp 53, .tmp 54] #[26, 27, 27] ?_ #[.agg #[.int .i64 xk, .int .i64 xn, .slice xa xm xcap], .slice fa N fc, .slice ta N tc] ?_ ?_ HC.out puPost_ret ?_
                   (· rfl)
                   (· rfl)
                   (· simp [Act.eval])
                   (· exact enters_of Try.func31 (by kernel_rfl) rfl)
                   rintro _ w6 ⟨a2, c2, h1, hty2, hb6⟩
                   injection h1 with h1
                   subst h1
                   have hz6 : V0.heap.size ≤ w6.heap.size := hb6.size
                   have cu6 : w6.cell? ⟨b8, 2, none⟩ = some (.slice va k vcap) := cell_box HBU.out (hb6.block _ (Nat.lt_of_lt_of_le (by omega) HSZ.out)) rfl
                   have lz6 : b8 < w6.heap.size := cell_lt cu6
                   have HTY2 := Lib.hid hty2
                   have HB6 := Lib.hid hb6
                   have HZ6 := Lib.hid hz6
                   clear hty2 hb6 hz6)
                | (refine step_append_lies _ ?_ (.tmp 47) (.tmp 56) 24 ?_ (b8 + 1) 26 i0 (.agg #[.int .i64 0, .int .i64 0, .slice none 0 0]) 3 40 Try.underlying24 hi hz0 hz1 hz2 ?_ ?_ (.slice va k vcap) k (rowCells ks) ?_ ?_ ⟨w6.heap.size, 0, none⟩ 1 1 [.int .i64 rk, .int .i64 rn, .slice a2 rm c2] ?_ ?_ ?_ ?_ ?_ ?_ ?_ ?_ (w6.heap.size + 1) ?_ ?_
                   (· rfl)
                   (· rfl)
                   (· rfl)
                   (· decide)
                   (· rfl)
                   (· exact ((own_len (HROW.out.keep (fun y _ hy => HB6.out.block y hy) HZ6.out).own HKL.out).alloc _))
                   (· rfl)
                   (· rfl)
                   (· exact World.news_of_block (World.alloc_heap_new w6 _))
                   (· exact three_one _ _ _ _ _)
                   (· decide)
                   (· exact HB40.out.2)
                   (· exact HB40.out.1)
                   (· exact Nat.le_trans HSZ.out (Nat.le_trans HZ6.out (by simp)))
                   (· simp)
                   intro g2 cap2 w7 own7 gr7 ly7 _
                   have lu7 := far_own gr7 HB6.out HBU.out HROW.out.own (by omega)
                   have cu7 : w7.cell? ⟨b8, 2, none⟩ = some (.slice va k vcap) := cell_box lu7 rfl rfl
                   have fu7 : w7.frozen? ⟨b8, 2, none⟩ = false := by simp [World.frozen?, lu7]
                   have OW7 := Lib.hid own7
                   have GR7 := Lib.hid gr7
                   have LY7 := Lib.hid ly7
                   have LU7 := Lib.hid lu7
                   clear own7 gr7 ly7 lu7))
              all_goals
                have hb8' := HB8.out
                have hrow7 := HROW.out.push HKL.out (e := ⟨x, a2, c2⟩) (fun y _ hy => HB6.out.block y hy) HZ6.out HSZ.out HTY2.out (by simp only [keCells, HVR.out.1, HVR.out.2.1, HVR.out.2.2]; exact OW7.out) GR7.out LY7.out
                have lt7 := far_own GR7.out HB6.out HBT9.out HROW.out.own (by omega)
                have lr7 := far_own GR7.out HB6.out HBR9.out HROW.out.own (by omega)
                have hb7 : Below w.heap.size w w7 := (HBW.out.trans (HB6.out.mono HBW.out.size)).trans ((((Below.refl w.heap.size w6).alloc (Nat.le_trans HBW.out.size HZ6.out) _)).grown GR7.out (by rw [World.size_alloc]; have := HBW.out.size; have := HZ6.out; omega) (fun y hy => by have := (HROW.out.own.lt y hy).1; omega))
                have hz7 : b8 + 1 ≤ w7.heap.size := by have h1 := GR7.out.size; rw [World.size_alloc] at h1; have h2 := HZ6.out; have h3 := HSZ.out; omega
                have R7 := Lib.hid hrow7; have LT7 := Lib.hid lt7; have LR7 := Lib.hid lr7; have HB7 := Lib.hid hb7; have HZ7 := Lib.hid hz7
                clear hrow7 lt7 lr7 hb7 hz7 hb8'
                go_wp2_with fail
                go_roundg (m - (k + 1))
                case measure => omega
                case rel =>
                  have hb8' := HB8.out
                  refine ⟨k + 1, ks ++ [⟨x, a2, c2⟩], _, by omega, by go_num, ?_, R7.out.keep (fun y hy _ => Below.heap_setCell _ _ _ y (by dsimp only; omega)) (by rw [size_setCell]; exact Nat.le_refl _), ?_, ?_, set2 LU7.out, HB7.out.setCell (by dsimp only; omega) _, by rw [size_setCell]; exact HZ7.out, rfl⟩
                  · rw [List.map_append, HKS.out, HTK.out, List.map_append, ← HXE.out, ← HYE.out]; rfl
                  · exact (Below.heap_setCell _ _ _ _ (by dsimp only; omega)).trans LT7.out
                  · exact (Below.heap_setCell _ _ _ _ (by dsimp only; omega)).trans LR7.out
            · obtain rfl : k = m := by omega
              have hall : ks.map Ke.t = t.kids.map (putR (fnd fs ts)) := by rw [HKS.out, List.take_of_length_le (by rw [HM.out]; exact Nat.le_refl _)]
              have HALL := Lib.hid hall; clear hall
              go_wp2_with fail
              have hb8' := HB8.out
              refine bodyPost_ret (v := .agg #[.int .i64 kk, .int .i64 nn, .slice va k vcap]) (by simp [results, Try.f31, go_sem, cr0, cr1, cr2]) rfl ?_
              have hrw := (HROW.out.keep (fun y hy _ => (Below.heap_setCell _ _ _ y (by dsimp only; omega)).trans ((Below.heap_setCell _ _ _ y (by dsimp only; omega)).trans (Below.heap_setCell _ _ _ y (by dsimp only; omega)))) (by rw [size_setCell, size_setCell, size_setCell]; exact Nat.le_refl _) : RowK (b8 + 1) (((V0.setCell ⟨w.heap.size + 1, 0, none⟩ (.int .i64 kk)).setCell ⟨w.heap.size + 1, 1, none⟩ (.int .i64 nn)).setCell ⟨w.heap.size + 1, 2, none⟩ (.slice va k vcap)) _ _).base (by omega : w.heap.size ≤ b8 + 1)
              rw [putR_node (by rw [HKK.out, HNN.out]; exact HFN.out), HKK.out, HNN.out]
              have hpt := TyPost.ty (t := .mk kk nn (t.kids.map (putR (fnd fs ts)))) (w := w) (a' := va) (cap' := vcap) HALL.out (by show RowK _ _ (.slice va (t.kids.map (putR (fnd fs ts))).length vcap) ks; rw [List.length_map, HM.out]; exact hrw) (by rw [← HKK.out]; exact HI.out.1) (by rw [← HNN.out]; exact HI.out.2)
              exact ⟨va, vcap, by show Ending.returned (.agg #[.int .i64 kk, .int .i64 nn, .slice va k vcap]) = .returned (.agg #[.int .i64 kk, .int .i64 nn, .slice va (t.kids.map (putR (fnd fs ts))).length vcap]); rw [List.length_map, HM.out], hpt, ((HBW.out.setCell (by dsimp only; omega) _).setCell (by dsimp only; omega) _).setCell (by dsimp only; omega) _⟩
        · obtain rfl : k = N := by omega
          obtain ⟨k9, hk9⟩ : ∃ q, q = k := ⟨_, rfl⟩
          subst hk9
          clear hex hsr hk0
          have HFN := Lib.hid (show kk = 6 → fnd fs ts nn = none from fun h => HNONE.out h)
          go_upto_region 7 with fail
          clear c0 c1
          obtain ⟨b8, hb8⟩ : ∃ q, wr.heap.size = q := ⟨_, rfl⟩
          obtain ⟨U, hU⟩ : ∃ W, wr.alloc (.cells #[.int .i64 kk, .int .i64 nn, .slice none 0 0] 26) = W := ⟨_, rfl⟩
          rw [hU, hb8]
          have hub : Below wr.heap.size wr U := by rw [← hU]; exact (Below.refl _ _).alloc (Nat.le_refl _) _
          have hub8 : U.heap[b8]? = some (.cells #[.int .i64 kk, .int .i64 nn, .slice none 0 0] 26) := by rw [← hU, ← hb8]; exact World.alloc_heap_new _ _
          have huz : U.heap.size = b8 + 1 := by rw [← hU, World.size_alloc, hb8]
          have HUT := Lib.hid ((hub.block _ (Array.getElem?_eq_some_iff.1 HBT.out).1).trans HBT.out); have HUR := Lib.hid ((hub.block _ (Array.getElem?_eq_some_iff.1 HBR.out).1).trans HBR.out); have HUU := Lib.hid hub8; have HUW := Lib.hid (HWW.out.trans (hub.mono HWW.out.size)); have HUZ := Lib.hid huz
          have HB8 := Lib.hid (show w.heap.size + 2 ≤ b8 by have := HZB.out; rw [HS2.out, hb8] at this; exact this)
          clear hU hub hub8 huz hb8
          go_wp2_with fail
          go_loopg [9] m (fun gk i wr => ∃ (k : Nat) (ks : List Ke) (v : Value), k ≤ m ∧ i = .int .i64 k ∧ ks.map Ke.t = (t.kids.take k).map (putR (fnd fs ts)) ∧ RowK (b8 + 1) wr v ks ∧ wr.heap[w.heap.size]? = some (.cells #[.int .i64 kk, .int .i64 nn, .slice a m cap] 26) ∧ wr.heap[w.heap.size + 1]? = some (.cells #[.int .i64 0, .int .i64 0, .slice none 0 0] 26) ∧
            wr.heap[b8]? = some (.cells #[.int .i64 kk, .int .i64 nn, v] 26) ∧ Below w.heap.size w wr ∧ b8 + 1 ≤ wr.heap.size ∧ gk = m - k)
          case atStart => exact ⟨0, [], _, Nat.zero_le _, rfl, by simp, RowK.nil _ _, HUT.out, HUR.out, HUU.out, HUW.out, by rw [HUZ.out]; exact Nat.le_refl _, rfl⟩
          case round =>
            obtain ⟨k, ks, v, hk, rfl, hks, hrow, hbt, hbr, hbu, hbw, hsz, rfl⟩ := hrel
            obtain ⟨V0, hV0⟩ : ∃ x : World, x = wr := ⟨_, rfl⟩
            subst hV0
            have hkl : ks.length = k := by have := congrArg List.length hks; rw [List.length_map, List.length_map, List.length_take, HM.out] at this; omega
            obtain ⟨va, vcap, rfl⟩ := own_shapeT hrow.own
            rw [hkl] at hrow hbu
            have cu : V0.cell? ⟨b8, 2, none⟩ = some (.slice va k vcap) := cell_box hbu rfl rfl
            have cu0 : V0.cell? ⟨b8, 0, none⟩ = some (.int .i64 kk) := cell_box hbu rfl rfl
            have cu1 : V0.cell? ⟨b8, 1, none⟩ = some (.int .i64 nn) := cell_box hbu rfl rfl
            obtain ⟨cr0, cr1, cr2, crf⟩ := zero3 hbr
            have fr0 := crf 0; have fr1 := crf 1; have fr2 := crf 2
            have ct : V0.cell? ⟨w.heap.size, 2, none⟩ = some (.slice a m cap) := cell_box hbt rfl rfl
            have HKS := Lib.hid hks; have HROW := Lib.hid hrow; have HBT9 := Lib.hid hbt; have HBR9 := Lib.hid hbr; have HBU := Lib.hid hbu; have HBW := Lib.hid hbw; have HSZ := Lib.hid hsz; have HKL := Lib.hid hkl
            clear hks hrow hbt hbr hbu hbw hsz hkl crf
            by_cases hltk : k < m
            · have hkk : k < t.kids.length := by rw [HM.out]; exact hltk
              obtain ⟨b, o, xa, xcap, rfl, hbn, hx, x0, x1, x2⟩ := kid_at HTY.out HBW.out (Nat.le_refl _) hkk
              have hsk := size_kid t.kids k hkk
              have hss := size_kids t
              have htk : t.kids.take (k + 1) = t.kids.take k ++ [t.kids[k]] := List.take_succ_eq_append_getElem hkk
              have hcall := IH.out t.kids[k] xa xcap V0.drew (by have := HN.out; omega) (by have := HS.out; omega) (hx.below ((Below.refl V0.heap.size V0).drew) (fun _ h => h) (fun _ h => h)) (NatsAt.stay HNF.out (fun b o e => HBW.out.block b (Nat.lt_of_lt_of_le (HFB.out b o e) HB0.out))) (NatsAt.stay HNT.out (fun b o e => HBW.out.block b (Nat.lt_of_lt_of_le (HTB.out b o e) HB0.out))) (Nat.le_trans HB0.out HBW.out.size)
              rw [HN1.out, HN2.out] at hcall
              obtain ⟨y, hy'⟩ : ∃ x, t.kids[k] = x := ⟨_, rfl⟩
              rw [hy'] at x0 x1 x2 hcall htk
              obtain ⟨xk, xn, xm, hvy⟩ := TV.mk y
              rw [hvy.1] at x0; rw [hvy.2.1] at x1; rw [hvy.2.2] at x2
              rw [tv_of hvy] at hcall
              obtain ⟨x, hx'⟩ : ∃ x, putR (fnd fs ts) y = x := ⟨_, rfl⟩
              rw [hx'] at hcall
              obtain ⟨rk, rn, rm, hvr⟩ := TV.mk x
              have hcall2 : Calls Try.prog 31 #[.agg #[.int .i64 xk, .int .i64 xn, .slice xa xm xcap], .slice fa k9 fc, .slice ta k9 tc] V0.drew (PuPost x rk rn rm V0) := by
                refine hcall.mono fun e w' hp => ?_
                obtain ⟨a2, c2, h1, h2, h6⟩ := hp
                exact ⟨a2, c2, by rw [h1, tv_of hvr], h2, h6.os, h6.tape, h6.output, h6.size, h6.block⟩
              have HC := Lib.hid hcall2; have HTK := Lib.hid htk; have HVR := Lib.hid hvr; have HXE := Lib.hid hx'; have HYE := Lib.hid hy'
              clear hcall hcall2 htk hx hx' hy' hsk hss hvy hvr
              obtain ⟨i0, hi, hz0, hz1, hz2⟩ := info_parts info_ty
              have hb40 := b40 (Nat.le_trans (Nat.le_of_lt hltk) hm10)
              have HB40 := Lib.hid hb40; clear hb40
              go_wp2_with fail
              go_region_law (first
                | (refine step_call ?_ 31 #[.tmp 52, .tmp 53, .tmp 54] #[26, 27, 27] ?_ #[.agg #[.int .i64 xk, .int .i64 xn, .slice xa xm xcap], .slice fa k9 fc, .slice ta k9 tc] ?_ ?_ HC.out puPost_ret ?_
                   (· rfl)
                   (· rfl)
                   (· simp [Act.eval])
                   (· exact enters_of Try.func31 (by kernel_rfl) rfl)
                   rintro _ w6 ⟨a2, c2, h1, hty2, hb6⟩
                   injection h1 with h1
                   subst h1
                   have hz6 : V0.heap.size ≤ w6.heap.size := hb6.size
                   have cu6 : w6.cell? ⟨b8, 2, none⟩ = some (.slice va k vcap) := cell_box HBU.out (hb6.block _ (Nat.lt_of_lt_of_le (by omega) HSZ.out)) rfl
                   have lz6 : b8 < w6.heap.size := cell_lt cu6
                   have HTY2 := Lib.hid hty2
                   have HB6 := Lib.hid hb6
                   have HZ6 := Lib.hid hz6
                   clear hty2 hb6 hz6)
                | (refine step_append_lies _ ?_ (.tmp 47) (.tmp 56) 24 ?_ (b8 + 1) 26 i0 (.agg #[.int .i64 0, .int .i64 0, .slice none 0 0]) 3 40 Try.underlying24 hi hz0 hz1 hz2 ?_ ?_ (.slice va k vcap) k (rowCells ks) ?_ ?_ ⟨w6.heap.size, 0, none⟩ 1 1 [.int .i64 rk, .int .i64 rn, .slice a2 rm c2] ?_ ?_ ?_ ?_ ?_ ?_ ?_ ?_ (w6.heap.size + 1) ?_ ?_
                   (· rfl)
                   (· rfl)
                   (· rfl)
                   (· decide)
                   (· rfl)
                   (· exact ((own_len (HROW.out.keep (fun y _ hy => HB6.out.block y hy) HZ6.out).own HKL.out).alloc _))
                   (· rfl)
                   (· rfl)
                   (· exact World.news_of_block (World.alloc_heap_new w6 _))
                   (· exact three_one _ _ _ _ _)
                   (· decide)
                   (· exact HB40.out.2)
                   (· exact HB40.out.1)
                   (· exact Nat.le_trans HSZ.out (Nat.le_trans HZ6.out (by simp)))
                   (· simp)
                   intro g2 cap2 w7 own7 gr7 ly7 _
                   have lu7 := far_own gr7 HB6.out HBU.out HROW.out.own (by omega)
                   have cu7 : w7.cell? ⟨b8, 2, none⟩ = some (.slice va k vcap) := cell_box lu7 rfl rfl
                   have fu7 : w7.frozen? ⟨b8, 2, none⟩ = false := by simp [World.frozen?, lu7]
                   have OW7 := Lib.hid own7
                   have GR7 := Lib.hid gr7
                   have LY7 := Lib.hid ly7
                   have LU7 := Lib.hid lu7
                   clear own7 gr7 ly7 lu7))
              all_goals
                have hb8' := HB8.out
                have hrow7 := HROW.out.push HKL.out (e := ⟨x, a2, c2⟩) (fun y _ hy => HB6.out.block y hy) HZ6.out HSZ.out HTY2.out (by simp only [keCells, HVR.out.1, HVR.out.2.1, HVR.out.2.2]; exact OW7.out) GR7.out LY7.out
                have lt7 := far_own GR7.out HB6.out HBT9.out HROW.out.own (by omega)
                have lr7 := far_own GR7.out HB6.out HBR9.out HROW.out.own (by omega)
                have hb7 : Below w.heap.size w w7 := (HBW.out.trans (HB6.out.mono HBW.out.size)).trans ((((Below.refl w.heap.size w6).alloc (Nat.le_trans HBW.out.size HZ6.out) _)).grown GR7.out (by rw [World.size_alloc]; have := HBW.out.size; have := HZ6.out; omega) (fun y hy => by have := (HROW.out.own.lt y hy).1; omega))
                have hz7 : b8 + 1 ≤ w7.heap.size := by have h1 := GR7.out.size; rw [World.size_alloc] at h1; have h2 := HZ6.out; have h3 := HSZ.out; omega
                have R7 := Lib.hid hrow7; have LT7 := Lib.hid lt7; have LR7 := Lib.hid lr7; have HB7 := Lib.hid hb7; have HZ7 := Lib.hid hz7
                clear hrow7 lt7 lr7 hb7 hz7 hb8'
                go_wp2_with fail
                go_roundg (m - (k + 1))
                case measure => omega
                case rel =>
                  have hb8' := HB8.out
                  refine ⟨k + 1, ks ++ [⟨x, a2, c2⟩], _, by omega, by go_num, ?_, R7.out.keep (fun y hy _ => Below.heap_setCell _ _ _ y (by dsimp only; omega)) (by rw [size_setCell]; exact Nat.le_refl _), ?_, ?_, set2 LU7.out, HB7.out.setCell (by dsimp only; omega) _, by rw [size_setCell]; exact HZ7.out, rfl⟩
                  · rw [List.map_append, HKS.out, HTK.out, List.map_append, ← HXE.out, ← HYE.out]; rfl
                  · exact (Below.heap_setCell _ _ _ _ (by dsimp only; omega)).trans LT7.out
                  · exact (Below.heap_setCell _ _ _ _ (by dsimp only; omega)).trans LR7.out
            · obtain rfl : k = m := by omega
              have hall : ks.map Ke.t = t.kids.map (putR (fnd fs ts)) := by rw [HKS.out, List.take_of_length_le (by rw [HM.out]; exact Nat.le_refl _)]
              have HALL := Lib.hid hall; clear hall
              go_wp2_with fail
              have hb8' := HB8.out
              refine bodyPost_ret (v := .agg #[.int .i64 kk, .int .i64 nn, .slice va k vcap]) (by simp [results, Try.f31, go_sem, cr0, cr1, cr2]) rfl ?_
              have hrw := (HROW.out.keep (fun y hy _ => (Below.heap_setCell _ _ _ y (by dsimp only; omega)).trans ((Below.heap_setCell _ _ _ y (by dsimp only; omega)).trans (Below.heap_setCell _ _ _ y (by dsimp only; omega)))) (by rw [size_setCell, size_setCell, size_setCell]; exact Nat.le_refl _) : RowK (b8 + 1) (((V0.setCell ⟨w.heap.size + 1, 0, none⟩ (.int .i64 kk)).setCell ⟨w.heap.size + 1, 1, none⟩ (.int .i64 nn)).setCell ⟨w.heap.size + 1, 2, none⟩ (.slice va k vcap)) _ _).base (by omega : w.heap.size ≤ b8 + 1)
              rw [putR_node (by rw [HKK.out, HNN.out]; exact HFN.out), HKK.out, HNN.out]
              have hpt := TyPost.ty (t := .mk kk nn (t.kids.map (putR (fnd fs ts)))) (w := w) (a' := va) (cap' := vcap) HALL.out (by show RowK _ _ (.slice va (t.kids.map (putR (fnd fs ts))).length vcap) ks; rw [List.length_map, HM.out]; exact hrw) (by rw [← HKK.out]; exact HI.out.1) (by rw [← HNN.out]; exact HI.out.2)
              exact ⟨va, vcap, by show Ending.returned (.agg #[.int .i64 kk, .int .i64 nn, .slice va k vcap]) = .returned (.agg #[.int .i64 kk, .int .i64 nn, .slice va (t.kids.map (putR (fnd fs ts))).length vcap]); rw [List.length_map, HM.out], hpt, ((HBW.out.setCell (by dsimp only; omega) _).setCell (by dsimp only; omega) _).setCell (by dsimp only; omega) _⟩
end Go.Proofs.Yteolbbgnkbcfmaa
namespace Go.Proofs.Yteolbbgnkbcfmaa
open Go Go.RowKit
open Tp (T)
open Sg (Of Rt Den Dens Alk Mkd trav travs rootOf kidsOf)
theorem imUp_at {fs ts : List Nat} (hn : fs.Nodup) : ∀ k, k ≤ fs.length → ∀ j, j < k → imUp fs ts k ((fs.getD j 0 : Nat) : Int) = some (ts.getD j 0)
  | 0, _, j, hj => by omega
  | k + 1, hk, j, hj => by
    unfold imUp imPut
    by_cases e : j = k
    · subst e; rw [if_pos rfl]
    · rw [if_neg, imUp_at hn k (by omega) j (by omega)]
      intro h
      have hjl : j < fs.length := by omega
      have hkl : k < fs.length := by omega
      have h2 : fs[j] = fs[k] := by
        have h3 : fs.getD j 0 = fs.getD k 0 := by omega
        rwa [List.getD_eq_getElem?_getD, List.getD_eq_getElem?_getD, List.getElem?_eq_getElem hjl, List.getElem?_eq_getElem hkl] at h3
      exact e ((List.getElem_inj hn).1 h2)
theorem imUp_fnd {fs ts : List Nat} (hl : fs.length = ts.length) (hn : fs.Nodup) : imUp fs ts fs.length = fnd fs ts := by
  funext i
  by_cases h : ∃ j, ∃ hj : j < fs.length, ((fs[j] : Nat) : Int) = i
  · obtain ⟨j, hj, rfl⟩ := h
    have h1 := imUp_at (ts := ts) hn fs.length (Nat.le_refl _) j hj
    have e1 : fs.getD j 0 = fs[j] := by rw [List.getD_eq_getElem?_getD, List.getElem?_eq_getElem hj]; rfl
    have e2 : ts.getD j 0 = ts[j]'(by omega) := by rw [List.getD_eq_getElem?_getD, List.getElem?_eq_getElem (by omega)]; rfl
    rw [e1, e2] at h1
    rw [h1, fnd_at hj (by omega) (fun q hq hqj e => by
      have h9 : fs[q] = fs[j] := by omega
      have := (List.getElem_inj hn).1 h9; omega)]
  · rw [fnd_none (fun j hj e => h ⟨j, hj, e⟩), imUp_none]
    intro j hj e
    refine h ⟨j, hj, ?_⟩
    rw [e, List.getD_eq_getElem?_getD, List.getElem?_eq_getElem hj]; rfl
mutual
theorem putR_size (M0 : IMap) : ∀ t : T, Tp.size (putR M0 t) ≤ Tp.size t
  | .mk k n l => by
    rw [putR]
    have h := putRs_size M0 l
    split
    · split
      · simp only [Tp.size, Tp.sizes]; omega
      · simp only [Tp.size]; omega
    · simp only [Tp.size]; omega
theorem putRs_size (M0 : IMap) : ∀ l : List T, Tp.sizes (putRs M0 l) ≤ Tp.sizes l
  | [] => by simp [putRs]
  | t :: r => by
    have h1 := putR_size M0 t
    have h2 := putRs_size M0 r
    simp only [putRs, Tp.sizes]; omega
end
theorem cpAll_all {H : List SNd} {M : IMap} {l : List Nat} {P : SNd → Prop} (h1 : ∀ d ∈ H, P d) (h2 : ∀ r n, P ⟨cpNode H M r, n⟩) : ∀ d ∈ cpAll H M l, P d := by
  have key : ∀ (l : List Nat) (A : List SNd), (∀ d ∈ A, P d) → ∀ d ∈ l.foldl (fun A r => A ++ [(⟨cpNode H M r, A.length⟩ : SNd)]) A, P d := fun l => by
    induction l with
    | nil => intro A hA; exact hA
    | cons r l ih =>
      intro A hA
      rw [List.foldl_cons]
      refine ih _ (fun d hd => ?_)
      rcases List.mem_append.1 hd with hd | hd
      · exact hA d hd
      · obtain rfl := List.mem_singleton.1 hd
        exact h2 _ _
  exact key l H h1
theorem cpNode_kind {H : List SNd} {M : IMap} (h : ∀ d ∈ H, I64 d.c.kind) (r : Nat) : I64 (cpNode H M r).kind := by
  unfold cpNode
  cases hr : H[r]? with
  | none => exact (show I64 (0 : Int) from by unfold I64; decide)
  | some e => exact h e (List.mem_of_getElem? hr)
theorem cpNode_met {H : List SNd} {M : IMap} {K : Int} (hK : 0 ≤ K) (h : ∀ d ∈ H, d.c.met ≤ K) (r : Nat) : (cpNode H M r).met ≤ K := by
  unfold cpNode
  cases hr : H[r]? with
  | none => exact hK
  | some e => exact h e (List.mem_of_getElem? hr)
/-- A node that was made is no variable that the map doesn't name. -/
theorem im_ne {H : List SNd} {M : IMap} {t : T} {p o : Nat} (h : Im H M t p) {d : SNd} (hd : H[o]? = some d) (h6 : d.c.kind = 6) (ho : ∀ k, M k ≠ some o) : p ≠ o := fun e => by
  subst e
  cases t with
  | mk k n l =>
    obtain ⟨d', q1, _, q3, q4, _⟩ := h
    rw [hd] at q1; injection q1 with q1; subst q1
    exact ho n (q4 (q3.symm.trans h6))
theorem ims_ne {H : List SNd} {M : IMap} {o : Nat} {d : SNd} (hd : H[o]? = some d) (h6 : d.c.kind = 6) (ho : ∀ k, M k ≠ some o) : ∀ {l : List T} {xs : List Int}, Ims H M l xs → ∀ x ∈ xs, rootOf H x.toNat ≠ o
  | [], xs, h, x, hx => by rw [show xs = [] from h] at hx; cases hx
  | t :: ts, xs, h, x, hx => by
    obtain ⟨q, rest, rfl, h2, h3⟩ := h
    rcases List.mem_cons.1 hx with rfl | hx
    · rw [Int.toNat_natCast, h2.root]; exact im_ne h2 hd h6 ho
    · exact ims_ne hd h6 ho h3 x hx
theorem ims_node {H : List SNd} {M : IMap} : ∀ {l : List T} {xs : List Int}, Ims H M l xs → ∀ x ∈ xs, ∃ (p : Nat) (d : SNd), x = (p : Int) ∧ H[p]? = some d
  | [], xs, h, x, hx => by rw [show xs = [] from h] at hx; cases hx
  | t :: ts, xs, h, x, hx => by
    obtain ⟨q, rest, rfl, h2, h3⟩ := h
    rcases List.mem_cons.1 hx with rfl | hx
    · exact ⟨q, _, rfl, List.getElem?_eq_getElem h2.lt⟩
    · exact ims_node h3 x hx
/-- What the law's copy comes to. -/
theorem copy_all {H : List SNd} {M : IMap} {t : T} {p : Nat} {fs ts : List Nat} (him : Im H M t p) (hlv : LvOk H)
    (hfv : ∀ i (hi : i < fs.length), ∃ d : SNd, H[fs[i]]? = some d ∧ d.up = fs[i] ∧ d.c.kind = 6) (hnd : fs.Nodup) (hlen : fs.length = ts.length) (hts : ∀ x ∈ ts, x < 5) :
    ∃ (MM : IMap) (ll : List Nat), chg H H.length (imUp fs ts fs.length) (trav H (ren M t) p []) = (MM, ll) ∧ ll.length ≤ inner t ∧
      (∀ q ∈ ll, q < H.length ∧ ∀ x ∈ kidsOf H q, ∃ (p : Nat) (d : SNd), x = (p : Int) ∧ H[p]? = some d) ∧
      (∀ H1, Alk H H1 → Den (cpAll H1 MM ll) (putR (fnd fs ts) (ren M t)) (cpOf MM p) ∧ Den (cpAll H1 MM ll) (ren M t) p ∧ Im (cpAll H1 MM ll) M t p) ∧
      (∀ o, fs = [o] → (∀ k, M k ≠ some o) → ll = [] ∧ cpOf MM p = p) := by
  obtain ⟨M0, hM0⟩ : ∃ M0, imUp fs ts fs.length = M0 := ⟨_, rfl⟩
  have hfn : M0 = fnd fs ts := by rw [← hM0]; exact imUp_fnd hlen hnd
  have hkey : ∀ (r : Nat) e, M0 (r : Int) = some e → ∃ d : SNd, H[r]? = some d ∧ d.c.kind = 6 ∧ e < 5 := fun r e h => by
    rw [← hM0] at h
    obtain ⟨j, hj, hrj⟩ := imUp_key _ h
    have h2 := imUp_at (ts := ts) hnd fs.length (Nat.le_refl _) j hj
    rw [← hrj, h] at h2
    injection h2 with h2
    have e1 : fs.getD j 0 = fs[j] := by rw [List.getD_eq_getElem?_getD, List.getElem?_eq_getElem hj]; rfl
    have e2 : ts.getD j 0 = ts[j]'(by omega) := by rw [List.getD_eq_getElem?_getD, List.getElem?_eq_getElem (by omega)]; rfl
    obtain ⟨d, q1, q2, q3⟩ := hfv j hj
    have hr : r = fs[j] := by rw [e1] at hrj; omega
    exact ⟨d, by rw [hr]; exact q1, q3, by rw [h2, e2]; exact hts _ (List.getElem_mem _)⟩
  have hleafk : ∀ (r : Nat) e, M0 (r : Int) = some e → kidsOf H r = [] := fun r e h => by
    obtain ⟨d, q1, q2, _⟩ := hkey r e h
    unfold Sg.kidsOf; rw [q1]; simp only [q2]; rfl
  obtain ⟨Y, hY⟩ : ∃ Y, trav H (ren M t) p [] = Y := ⟨_, rfl⟩
  have hcl : Clo H Y := by rw [← hY]; exact trav_clo him (fun i hi => by cases hi)
  have hor : Ord H Y := by rw [← hY]; exact trav_ord him (Ord.nil H)
  have hno : Y.Nodup := by rw [← hY]; exact trav_nodup him List.nodup_nil
  have hpY : p ∈ Y := by have h := Sg.trav_mem (H := H) (ren M t) p []; rw [hY, him.root] at h; exact h
  have himY : ∀ q ∈ Y, ∃ u, Im H M u q := fun q hq => by
    rw [← hY] at hq
    rcases trav_im him hq with h | ⟨u, h, _⟩
    · cases h
    · exact ⟨u, h⟩
  obtain ⟨hkn, -⟩ := chg_known hleafk Y.length Y rfl hor hno
  have hgen := chg_gen H H.length Y (M0, [])
  have hin := chg_inner (M0 := M0) (Y := []) H.length him
  rw [hY] at hin ⊢
  rw [hM0]
  obtain ⟨⟨MM, ll⟩, hS⟩ : ∃ S, chg H H.length M0 Y = S := ⟨_, rfl⟩
  have hll : ∀ q ∈ ll, q ∈ Y := fun q hq => by
    have h9 : q ∈ (Y.foldl (chStep H H.length) (M0, [])).2 := by
      have : (Y.foldl (chStep H H.length) (M0, [])) = (MM, ll) := hS
      rw [this]; exact hq
    rcases hgen.1 q h9 with h | h
    · cases h
    · exact h
  rw [hS] at hkn hin
  have hin : ll.length ≤ inner t := by have h : ll.length ≤ 0 + inner t := hin; omega
  refine ⟨MM, ll, hS, hin, fun q hq => ?_, fun H1 ha => ?_, fun o hfo ho => ?_⟩
  · obtain ⟨u, hu⟩ := himY q (hll q hq)
    exact ⟨hu.lt, ims_node hu.kids⟩
  · have hlv1 : LvOk H1 := fun i hi => by
      obtain ⟨d, q1, q2, q3⟩ := hlv i hi
      obtain ⟨e, r1, r2, r3, _⟩ := ha.get q1
      exact ⟨e, r1, r2.trans q2, r3.trans q3⟩
    have h1 := copy_den (M1 := M) ha hcl hkn (fun r e h => by obtain ⟨d, a, b, _⟩ := hkey r e h; exact ⟨d, a, b⟩) (fun r e h => by obtain ⟨_, _, _, c⟩ := hkey r e h; exact c) hlv1 him hpY
    obtain ⟨N, hN, _⟩ := cpAll_pre H1 MM ll
    have h2 : Im (cpAll H1 MM ll) M t p := by rw [hN]; exact (him.carry (Car.of_alk ha)).mono (fun _ _ h => h)
    exact ⟨by rw [← hfn]; exact h1, h2.den, h2⟩
  · subst hfo
    obtain ⟨d, q1, q2, q3⟩ := hfv 0 (by simp)
    have q1 : H[o]? = some d := q1
    have hM : ∀ r : Nat, r ≠ o → M0 (r : Int) = none := fun r hr => by
      rw [← hM0]
      refine imUp_none _ (fun j hj => ?_)
      obtain rfl : j = 0 := by simp at hj; omega
      intro e
      exact hr (by have e9 : (([o] : List Nat).getD 0 0) = o := rfl
                   rw [e9] at e; omega)
    have hcn : chg H H.length M0 Y = (M0, []) := chg_none (fun r hr x hx => by
      obtain ⟨u, hu⟩ := himY r hr
      exact hM _ (ims_ne q1 q3 ho hu.kids x hx))
    rw [hcn] at hS
    injection hS with e1 e2
    refine ⟨e2.symm, ?_⟩
    unfold cpOf
    rw [← e1, hM p (im_ne him q1 q3 ho)]; rfl
end Go.Proofs.Yteolbbgnkbcfmaa
