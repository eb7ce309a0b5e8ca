/- store.changed. -/
import Derived.Test.YteolbbgnkbcfmaaSuM
import Derived.Test.YteolbbgnkbcfmaaStR
namespace Go.Proofs.Yteolbbgnkbcfmaa
open Go Go.RowKit Go.Shelf
open Tp (T)
open Sg (Of Rt Den Dens Alk Mkd trav travs rootOf kidsOf)
attribute [local go_sem] Oper.semAt_some
/-- Is one of some kids to be replaced? -/
def anyIn (H : List SNd) (M : IMap) (xs : List Int) : Bool := xs.any fun x => (M ((rootOf H x.toNat : Nat) : Int)).isSome
def chStep (H : List SNd) (base : Nat) (S : IMap × List Nat) (r : Nat) : IMap × List Nat := if anyIn H S.1 (kidsOf H r) = true then (imPut S.1 (r : Int) (base + S.2.length), S.2 ++ [r]) else S
def chg (H : List SNd) (base : Nat) (M0 : IMap) (Y : List Nat) : IMap × List Nat := Y.foldl (chStep H base) (M0, [])
theorem chg_snoc (H : List SNd) (base : Nat) (M0 : IMap) (Y : List Nat) (r : Nat) : chg H base M0 (Y ++ [r]) = chStep H base (chg H base M0 Y) r := by unfold chg; rw [List.foldl_append]; rfl
theorem chg_gen (H : List SNd) (base : Nat) : ∀ (Y : List Nat) (S : IMap × List Nat), (∀ q ∈ (Y.foldl (chStep H base) S).2, q ∈ S.2 ∨ q ∈ Y) ∧ (Y.foldl (chStep H base) S).2.length ≤ S.2.length + Y.length ∧ ∀ i e, (Y.foldl (chStep H base) S).1 i = some e → S.1 i = some e ∨ ∃ q ∈ Y, i = ((q : Nat) : Int)
  | [], S => ⟨fun q h => .inl h, by simp, fun i e h => .inl h⟩
  | r :: Y, S => by
    obtain ⟨h1, h2, h3⟩ := chg_gen H base Y (chStep H base S r)
    rw [List.foldl_cons]
    have e : chStep H base S r = S ∨ chStep H base S r = (imPut S.1 (r : Int) (base + S.2.length), S.2 ++ [r]) := by unfold chStep; split <;> simp
    refine ⟨fun q hq => ?_, ?_, fun i x hx => ?_⟩
    · rcases h1 q hq with h | h
      · rcases e with e | e
        · rw [e] at h; exact .inl h
        · rw [e] at h
          rcases List.mem_append.1 h with h | h
          · exact .inl h
          · exact .inr (by rw [List.mem_singleton.1 h]; exact List.mem_cons_self)
      · exact .inr (List.mem_cons_of_mem _ h)
    · have : (chStep H base S r).2.length ≤ S.2.length + 1 := by rcases e with e | e <;> rw [e] <;> simp
      rw [List.length_cons]; omega
    · rcases h3 i x hx with h | ⟨q, hq, h⟩
      · rcases e with e | e
        · rw [e] at h; exact .inl h
        · rw [e] at h
          have h' : imPut S.1 (r : Int) (base + S.2.length) i = some x := h
          unfold imPut at h'
          split at h'
          · rename_i he; exact .inr ⟨r, List.mem_cons_self, he⟩
          · exact .inl h'
      · exact .inr ⟨q, List.mem_cons_of_mem _ hq, h⟩
theorem le_four {a b : Nat} (h : a ≤ 1000000) (k : b ≤ 1000000) : a + b ≤ 4000000 := by omega
section
variable {B s g cap : Nat} {L C K : Int} {w : World} {H : List SNd}
/-- What changed hands back. -/
def ChP (B s g cap : Nat) (L C K : Int) (H : List SNd) (S : IMap × List Nat) (mb n0 : Nat) (w : World) (e : Ending) (w' : World) : Prop := ∃ v H', e = .returned v ∧ w'.ownsRow w.heap.size 3 1 v S.2.length (natRow S.2) ∧ SV B s g cap L C (K + 1) w' H' ∧ Alk H H' ∧ (∀ d ∈ H', d.c.met ≤ K + 1) ∧ IMAt w' mb (n0 + S.2.length) S.1 ∧ Kp w.heap.size (fun k => k = s ∨ k = g ∨ k = mb) w w'
/-- Between two rounds. -/
structure ChI (B s g : Nat) (H : List SNd) (M0 : IMap) (mb n0 b7 own : Nat) (w : World) (Y : List Nat) (v : Value) (V : World) : Prop where
  box : V.heap[b7]? = some (.cells #[v] 27)
  own : V.ownsRow own 3 1 v (chg H H.length M0 Y).2.length (natRow (chg H H.length M0 Y).2)
  map : IMAt V mb (n0 + (chg H H.length M0 Y).2.length) (chg H H.length M0 Y).1
  kp : Kp w.heap.size (fun k => k = s ∨ k = g ∨ k = mb) w V
  b3 : V.heap[w.heap.size]? = some (.cells #[.pointer (some ⟨s, 0, none⟩)] 30)
  b5 : V.heap[w.heap.size + 1]? = some (.cells #[.map (some mb)] 44)
set_option maxRecDepth 100000 in
set_option maxHeartbeats 8000000 in
theorem changed12_any (h : SV B s g cap L C K w H) (hm : ∀ d ∈ H, d.c.met ≤ K) (hK : 0 ≤ K ∧ K < 4611686018427387904) {t : T} {p : Nat} (hD : Den H t p) (hsz : Tp.size t ≤ 1000000) {mb n0 : Nat} {M0 : IMap} (hmb : IMAt w mb n0 M0) (hms : mb ≠ s ∧ mb ≠ g) (hn0 : n0 ≤ 1000000)
    (hnd : (trav H t p []).Nodup) (hM0 : ∀ i e, M0 i = some e → ∃ (v : Nat) (d : SNd), i = (v : Int) ∧ H[v]? = some d ∧ d.c.kind = 6) (hbig : H.length ≤ 1000000) :
    Calls Try.prog 83 #[.pointer (some ⟨s, 0, none⟩), .int .i64 (p : Int), .map (some mb)] w (ChP B s g cap L C K H (chg H H.length M0 (trav H t p [])) mb n0 w) := by
  have hml := hmb.lt
  obtain ⟨W3, hW3⟩ : ∃ W, [Obj.cells #[.pointer (some ⟨s, 0, none⟩)] 30, .cells #[.map (some mb)] 44, .cells #[.slice none 0 0] 27].foldl World.alloc w = W := ⟨_, rfl⟩
  have hx3 : W3.heap[w.heap.size]? = some (.cells #[.pointer (some ⟨s, 0, none⟩)] 30) := by rw [← hW3]; exact al_get _ w 0 _ rfl
  have hx5 : W3.heap[w.heap.size + 1]? = some (.cells #[.map (some mb)] 44) := by rw [← hW3]; exact al_get _ w 1 _ rfl
  have hx7 : W3.heap[w.heap.size + 2]? = some (.cells #[.slice none 0 0] 27) := by rw [← hW3]; exact al_get _ w 2 _ rfl
  have hs3 : W3.heap.size = w.heap.size + 3 := by rw [← hW3, al_size]; rfl
  have hb3 : Below w.heap.size w W3 := by rw [← hW3]; exact al_below _ w (Nat.le_refl _)
  have e0 : W3.cell? ⟨w.heap.size, 0, none⟩ = some (.pointer (some ⟨s, 0, none⟩)) := cell_box hx3 rfl rfl
  have HW3 := Lib.hid hW3; have HX3 := Lib.hid hx3; have HX5 := Lib.hid hx5; have HX7 := Lib.hid hx7; have HS3 := Lib.hid hs3; have HB3 := Lib.hid hb3; have HSV := Lib.hid h; have HM := Lib.hid hm; have HK := Lib.hid hK; have HD := Lib.hid hD; have HSZ := Lib.hid hsz; have HMB := Lib.hid hmb; have HMS := Lib.hid hms; have HN0 := Lib.hid hn0; have HND := Lib.hid hnd; have HM0 := Lib.hid hM0; have HBIG := Lib.hid hbig; have HF := Lib.hid h.far; have HML := Lib.hid hml
  clear hW3 hx3 hx5 hx7 hs3 hb3 h hm hK hD hsz hmb hms hn0 hnd hM0 hbig hml
  refine callsIn_wide (n := 9) |>.1 ?_
  refine callsIn_of_wp_marks Try.func83 rfl trivial ?_ rfl
  simp only [Try.ntmps83, List.size_toArray, List.length_cons, List.length_nil, Nat.reduceAdd, Nat.reduceSub, Array.replicate_succ, Array.replicate_zero, List.push_toArray, List.append_toArray, List.nil_append, List.cons_append]
  gi_upto_region 2 with fail
  rw [show ((w.alloc (.cells #[.pointer (some ⟨s, 0, none⟩)] 30)).alloc (.cells #[.map (some mb)] 44)).alloc (.cells #[.slice none 0 0] 27) = W3 from HW3.out]
  gi_wp2_with (refine ⟨trivial, ?_⟩; gi_at_call 74; refine (callsIn_wide.2 (roots12_any s p _)).mono ?_; rintro e w' ⟨rfl, rfl⟩)
  obtain ⟨W5, hW5⟩ : ∃ W, (W3.alloc (.cells #[.pointer (some ⟨s, 0, none⟩)] 30)).alloc (.cells #[.int .i64 (p : Int)] 3) = W := ⟨_, rfl⟩
  have hb5 : Below W3.heap.size W3 W5 := by rw [← hW5]; exact ((Below.refl _ _).alloc (Nat.le_refl _) _).alloc (by simp) _
  have hs5 : W5.heap.size = w.heap.size + 5 := by rw [← hW5]; simp [HS3.out]
  have hy0 : W5.heap[W3.heap.size]? = some (.cells #[.pointer (some ⟨s, 0, none⟩)] 30) := by rw [← hW5]; exact box1 _ _ _ _ _
  have hy1 : W5.heap[W3.heap.size + 1]? = some (.cells #[.int .i64 (p : Int)] 3) := by rw [← hW5]; exact box2 _ _ _ _ _
  have hbw : Below w.heap.size w W5 := HB3.out.trans (hb5.mono (by rw [HS3.out]; omega))
  have hsv5 : SV B s g cap L C K W5 H := (HSV.out.below HB3.out).below hb5
  have h0 : ChI B s g H M0 mb n0 (w.heap.size + 1 + 1) (W5.heap.size + 2) w [] (.slice none 0 0) W5 := ⟨(hb5.block _ (by rw [HS3.out]; omega)).trans HX7.out, World.ownsRow_nil _ _ _ _, HMB.out.same (hbw.block _ HML.out), .of_below hbw, (hb5.block _ (by rw [HS3.out]; omega)).trans HX3.out, (hb5.block _ (by rw [HS3.out]; omega)).trans HX5.out⟩
  rw [hW5]
  have hseq := roots_seq (B := B) (s := s) (g := g) (cap := cap) (L := L) (C := C) (K := K) H t p HD.out HK.out W3.heap.size (W3.heap.size + 1) W5 hy0 hy1 HM.out
  have HS5 := Lib.hid hs5; have HBW := Lib.hid hbw; have HSV5 := Lib.hid hsv5; have H0 := Lib.hid h0
  clear hW5 hb5 hs5 hy0 hy1 hbw hsv5 h0 e0 HW3
  refine wpIn_range_sto (a₁ := fun r => { tmps := #[.pointer (some ⟨s, 0, none⟩), .int .i64 (p : Int), .map (some mb), .pointer (some ⟨w.heap.size, 0, none⟩), undef, .pointer (some ⟨w.heap.size + 1, 0, none⟩), .slice none 0 0, .pointer (some ⟨w.heap.size + 1 + 1, 0, none⟩), .int .i64 (r : Int), undef, undef, undef, undef, .pointer (some ⟨s, 0, none⟩), .int .i64 (p : Int), .func (.func 117) #[] #[.pointer (some ⟨W3.heap.size, 0, none⟩), .pointer (some ⟨W3.heap.size + 1, 0, none⟩)], .int .i64 (r : Int), undef, undef, undef, undef, undef, undef, undef, undef, undef, undef, undef, undef, undef, undef, undef, undef, undef, undef, undef, undef, undef, undef, undef, undef, undef, undef, undef, undef, undef, undef, undef, undef, undef], defers := [] })
    (w0 := W5) (w := W5) rfl (enters_of Try.func117 (by kernel_rfl) rfl) hseq (Below.refl _ _) ?mine (fun m A D h hk => StS.same m A D h hk) rfl
    (fun Y V => ∃ v, ChI B s g H M0 mb n0 (w.heap.size + 1 + 1) (W5.heap.size + 2) w Y v V)
    (fun _ _ _ => False) ?inv (fun _ _ _ _ h _ => h) ⟨_, H0.out⟩ ⟨HSV5.out, Alk.refl _, HM.out⟩ ?assign ?body ?done ?stop
  case mine => rintro k (rfl | rfl) <;> (have := HF.out; have := HS5.out; omega)
  case inv =>
    rintro Y A D ⟨v, I⟩ hT
    have := HF.out; have := HS5.out; have := HS3.out; have hms := HMS.out; have hml := HML.out
    refine ⟨v, hT.heap I.box (by omega), own_same I.own (fun z hz => hT.block z (I.own.lt z hz).2 (by have := (I.own.lt z hz).1; omega)), I.map.same (hT.block _ I.map.lt (by omega)), ⟨hT.os.trans I.kp.os, hT.tape.trans I.kp.tape, hT.output.trans I.kp.output, Nat.le_trans I.kp.size hT.size, fun i hi hm => (hT.block i (by have := I.kp.size; omega) (fun h => by rcases h with (h | h) | h; exact hm (.inl h); exact hm (.inr (.inl h)); omega)).trans (I.kp.block i hi hm)⟩, hT.heap I.b3 (by omega), hT.heap I.b5 (by omega)⟩
  case assign =>
    intro l r W K hK
    gi_wp2
    exact hK
  case body =>
    rintro l Y r ⟨m1, Hm⟩ V ⟨v, I⟩ ⟨hsv, hal, hmm⟩ ⟨⟨d, u, hd, hdu, hdd, _, hyn, _, Z, hZ⟩, hm1⟩ hlt
    dsimp only at hsv hal hmm hm1
    subst hm1
    have hrY : ¬ r ∈ Y := fun hr => by
      have hn := HND.out
      rw [hZ] at hn
      exact (List.nodup_append.1 hn).2.2 r hr r List.mem_cons_self rfl
    obtain ⟨e, he, heu, hek, -, hea, heb⟩ := hal.get hd
    obtain ⟨d1, r1, hd1, hr1, _, hk1, hn1, hds⟩ := hdd.open
    have hrr : r1 = d := by rw [hd] at hd1; injection hd1 with hd1; subst hd1; rw [hdu, hd] at hr1; injection hr1 with hr1; exact hr1.symm
    subst hrr
    obtain ⟨kk, hkk⟩ : ∃ k, e.c.kind = k := ⟨_, rfl⟩
    obtain ⟨ks, hks⟩ : ∃ x, kidL e.c.kind e.c.a e.c.b = x := ⟨_, rfl⟩
    rw [← hek, ← hea, ← heb, hks] at hds
    have hkr : kidsOf H r = ks := by unfold kidsOf; rw [hd]; show kidL r1.c.kind r1.c.a r1.c.b = ks; rw [← hek, ← hea, ← heb]; exact hks
    have hkl : ks.length = ar kk := by rw [← hks, kidL_len, hkk]
    obtain ⟨S, hS⟩ : ∃ S, chg H H.length M0 Y = S := ⟨_, rfl⟩
    have hgen := chg_gen H H.length Y (M0, [])
    have hS' : Y.foldl (chStep H H.length) (M0, []) = S := hS
    rw [hS'] at hgen
    obtain ⟨-, hSl, hSk⟩ := hgen
    simp only [List.length_nil, Nat.zero_add] at hSl
    have hno : kk ≠ 6 → S.1 (r : Int) = none := fun h6 => by
      cases hc : S.1 (r : Int) with
      | none => rfl
      | some x =>
        exfalso
        rcases hSk _ x hc with h | ⟨q, hq, h⟩
        · obtain ⟨v', d', h1, h2, h3⟩ := HM0.out _ _ h
          have : v' = r := by omega
          subst this
          rw [hd] at h2; injection h2 with h2
          exact h6 (by rw [← hkk, hek, h2]; exact h3)
        · have : q = r := by omega
          subst this; exact hrY hq
    have e0 : V.cell? ⟨w.heap.size, 0, none⟩ = some (.pointer (some ⟨s, 0, none⟩)) := cell_box I.b3 rfl rfl
    have hkd := kids12_any hsv he
    rw [hkk] at hkd
    obtain ⟨m, hm⟩ : ∃ x, ar kk = x := ⟨_, rfl⟩
    rw [hm] at hkd hkl
    have hm2' : m ≤ 2 := by rw [← hm]; exact ar_le _
    have h6m : 0 < m → kk ≠ 6 := fun h h6 => by rw [← hm, h6] at h; exact absurd h (by decide)
    have hrl := (List.getElem?_eq_some_iff.1 he).1
    have HV := Lib.hid hsv; have HAL := Lib.hid hal; have HMM := Lib.hid hmm; have HI := Lib.hid I; have HE := Lib.hid he; have HKS := Lib.hid hks; have HDS := Lib.hid hds; have HYN := Lib.hid hyn; have HLT := Lib.hid hlt; have HKD := Lib.hid hkd; have HKL := Lib.hid hkl; have HM2 := Lib.hid hm2'; have H6M := Lib.hid h6m; have HNO := Lib.hid hno; have HS := Lib.hid hS; have HSL := Lib.hid hSl; have HKR := Lib.hid hkr; have HRL := Lib.hid hrl
    clear hsv hal hmm I he hks hds hyn hlt hkd hkl hm2' h6m hno hS hS' hSl hSk hkr hrl hd hdu hdd hrY heu hek hea heb hd1 hr1 hk1 hn1 hkk hm hZ
    have hm2 : Try.prog.follows .mixedOrders = true := by kernel_rfl
    gi_upto_region 4 with fail
    gi_wp2_with (refine ⟨trivial, ?_⟩; gi_at_call 81; refine (CallsIn.inRound l (callsIn_wide.2 HKD.out)).mono ?_; clear e0; rintro e w5 ⟨rfl, hb5⟩; have HB5 := Lib.hid hb5; clear hb5)
    gi_loopg [21] m (fun gk v wr => ∃ k : Nat, k ≤ m ∧ v = .int .i64 (k : Int) ∧ anyIn H S.1 (ks.take k) = false ∧ SV B s g cap L C (K + 1) wr Hm ∧ Turns (fun k => k = g) V wr ∧ gk = m - k)
    case atStart => exact ⟨0, Nat.zero_le _, rfl, rfl, HV.out.below HB5.out, below_turns HB5.out, rfl⟩
    case round =>
      obtain ⟨k, hkm, rfl, hany, hsv, htn, rfl⟩ := hrel
      have HANY := Lib.hid hany; have HSVR := Lib.hid hsv; have HTN := Lib.hid htn
      clear hany hsv htn
      by_cases hlt : k < m
      · have hkk : k < ks.length := by rw [HKL.out]; exact hlt
        have hkt : k < u.kids.length := by rw [HDS.out.len]; exact hkk
        obtain ⟨q, hq, hdq⟩ := HDS.out.get k hkt hkk
        obtain ⟨i, hi⟩ : ∃ i, rootOf H q = i := ⟨_, rfl⟩
        obtain ⟨dq, hdq', hdqm⟩ : ∃ d : SNd, Hm[q]? = some d ∧ d.up = i := by
          obtain ⟨d, _, hd, _⟩ := hdq.open
          obtain ⟨e, he, heu, _⟩ := HAL.out.get hd
          exact ⟨e, he, by rw [heu, ← hi, rootOf_some hd]⟩
        have hil : i < H.length := by
          have h9 := hdq.root.1
          rw [hi] at h9
          obtain ⟨d9, _, hd9, _⟩ := h9.open
          exact (List.getElem?_eq_some_iff.1 hd9).1
        have hii : I64 (i : Int) := by have := HBIG.out; unfold I64; omega
        have hroot := fun x (hx : SV B s g cap L C (K + 1) x Hm) => root12_any hx hdq'
        simp only [hdqm] at hroot
        have hanyk : anyIn H S.1 (ks.take (k + 1)) = (S.1 (i : Int)).isSome := by
          have h9 := HANY.out
          unfold anyIn at h9 ⊢
          rw [List.take_succ_eq_append_getElem hkk, List.any_append, h9, hq]
          simp [hi]
        have hmg : mb ≠ g := HMS.out.2
        have hf := HF.out; have hml := HML.out; have hs5 := HS5.out; have hlv := HLT.out
        have him : IMAt V mb (n0 + S.2.length) S.1 := by have h9 := HI.out.map; rw [HS.out] at h9; exact h9
        have hlk := fun x (hx : Turns (fun k => k = g) wr x) => im_look (him.same ((hx.block _ (Nat.lt_of_lt_of_le him.lt HTN.out.size) hmg).trans (HTN.out.block _ him.lt hmg))) hii true
        have hck := HSVR.out.kid HE.out k (by rw [HKS.out]; exact hkk)
        simp only [HKS.out, hq] at hck
        obtain ⟨i1, i2⟩ := pt_int hlt
        have hb5 := HTN.out.heap HI.out.b5 (by omega)
        have hb3 := HTN.out.heap HI.out.b3 (by omega)
        have HRT := Lib.hid hroot; have HLK := Lib.hid hlk; have HMX := Lib.hid hb5; have HM3 := Lib.hid hb3; have HANYK := Lib.hid hanyk; have HIM := Lib.hid him
        have HCELL := Lib.hid (fun x (hx : SV B s g cap L C (K + 1) x Hm ∧ Turns (fun k => k = g) wr x) => (⟨cell_box (hx.2.heap HMX.out (by have := HF.out; omega)) rfl rfl, cell_box (hx.2.heap HM3.out (by have := HF.out; omega)) rfl rfl, HLK.out x hx.2⟩ : x.cell? ⟨w.heap.size + 1, 0, none⟩ = some (.map (some mb)) ∧ x.cell? ⟨w.heap.size, 0, none⟩ = some (.pointer (some ⟨s, 0, none⟩)) ∧ (Instr.lookup 44 (.map (some mb)) (.int .i64 (i : Int)) true).run Try.prog x = .ok (if true = true then .tuple #[imV S.1 (i : Int), .bool (S.1 (i : Int)).isSome] else imV S.1 (i : Int)) x))
        have HWK := Lib.hid (show wrap64 ((k : Int) + 1) = ((k + 1 : Nat) : Int) by have := HM2.out; unfold wrap64; omega)
        clear hroot hlk hb5 hb3 hanyk him hi hdq' hdqm hdq hq hkt hii hil hmg hf hml hs5 hlv
        gi_upto_region 7 with fail
        clear hck
        gi_cut [12] from 200 (fun v wx => v = .bool (S.1 (i : Int)).isSome ∧ SV B s g cap L C (K + 1) wx Hm ∧ Turns (fun k => k = g) wr wx)
        case first =>
          refine wpIn_only ?_
          obtain ⟨U0, hU0⟩ : ∃ x, wr.drew = x := ⟨_, rfl⟩
          have HS0 := Lib.hid (show SV B s g cap L C (K + 1) U0 Hm ∧ Turns (fun k => k = g) wr U0 by rw [← hU0]; exact ⟨HSVR.out.drew, Turns.drew _ _⟩)
          refine wpIn_region_round hm2 (by kernel_rfl) (by rintro ⟨_, _, h⟩; exact h) ?_
          rw [hU0]
          refine wpAny_of_held (S := fun x => SV B s g cap L C (K + 1) x Hm ∧ Turns (fun k => k = g) wr x) _ _ _ _ ?_
          clear hU0
          refine wpAnyH_take (i := 0) (oi := ⟨some 26, _, _, _, _, _⟩) (v := ?_) rfl (by kernel_rfl) (by kernel_rfl) (by kernel_rfl) (fun _ _ _ h => h.elim) (Or.inl ⟨by rfl, ?_⟩) HS0.out ?_
          rotate_left
          · (intro xx hSw; obtain ⟨c0, c1, hl9⟩ := HCELL.out _ hSw; go_simp; (try with_reducible rfl))
          try simp only [Act.put, List.setIfInBounds_toArray, List.set_cons_zero, List.set_cons_succ]
          refine wpAnyH_take (i := 1) (oi := ⟨some 27, _, _, _, _, _⟩) (v := ?_) rfl (by kernel_rfl) (by kernel_rfl) (by kernel_rfl) (fun _ _ _ h => h.elim) (Or.inl ⟨by rfl, ?_⟩) HS0.out ?_
          rotate_left
          · (intro xx hSw; obtain ⟨c0, c1, hl9⟩ := HCELL.out _ hSw; go_simp; (try with_reducible rfl))
          try simp only [Act.put, List.setIfInBounds_toArray, List.set_cons_zero, List.set_cons_succ]
          refine wpAnyH_take (i := 2) (oi := ⟨some 28, _, _, _, _, _⟩) (v := ?_) rfl (by kernel_rfl) (by kernel_rfl) (by kernel_rfl) (fun _ _ _ h => h.elim) (Or.inl ⟨by rfl, ?_⟩) HS0.out ?_
          rotate_left
          · (intro xx hSw; obtain ⟨c0, c1, hl9⟩ := HCELL.out _ hSw; go_simp; (try with_reducible rfl))
          try simp only [Act.put, List.setIfInBounds_toArray, List.set_cons_zero, List.set_cons_succ]
          refine wpAnyH_ready (rs := [3]) (by kernel_rfl) (by simp) ?_
          refine AllReadyH.cons (o := ⟨some 29, _, _, _, _, _⟩) rfl (fun K hK => ?_) AllReadyH.nil
          go_simp
          refine (HRT.out _ HS0.out.1).mono ?_
          rintro e U1 ⟨rfl, hsv, hk⟩
          have HS1 := Lib.hid (And.intro hsv (HS0.out.2.trans (Kp.turns hk)))
          clear hsv hk
          dsimp only
          refine hK.out _ _ HS1.out (fun _ => ?_)
          clear hK K
          try simp only [Act.put, List.setIfInBounds_toArray, List.set_cons_zero, List.set_cons_succ]
          refine wpAnyH_take (i := 4) (oi := ⟨some 30, _, _, _, _, _⟩) (v := ?_) rfl (by kernel_rfl) (by kernel_rfl) (by kernel_rfl) (fun _ _ _ h => h.elim) (Or.inl ⟨by rfl, ?_⟩) HS1.out ?_
          rotate_left
          · (intro xx hSw; obtain ⟨c0, c1, hl9⟩ := HCELL.out _ hSw; go_simp; (try with_reducible rfl))
          try simp only [Act.put, List.setIfInBounds_toArray, List.set_cons_zero, List.set_cons_succ]
          refine wpAnyH_take (i := 5) (oi := ⟨some 25, _, _, _, _, _⟩) (v := ?_) rfl (by kernel_rfl) (by kernel_rfl) (by kernel_rfl) (fun _ _ _ h => h.elim) (Or.inl ⟨by rfl, ?_⟩) HS1.out ?_
          rotate_left
          · (intro xx hSw; obtain ⟨c0, c1, hl9⟩ := HCELL.out _ hSw; go_simp; (try with_reducible rfl))
          try simp only [Act.put, List.setIfInBounds_toArray, List.set_cons_zero, List.set_cons_succ]
          refine wpAnyH_take (i := 6) (oi := ⟨some 31, _, _, _, _, _⟩) (v := ?_) rfl (by kernel_rfl) (by kernel_rfl) (by kernel_rfl) (fun _ _ _ h => h.elim) (Or.inl ⟨by rfl, ?_⟩) HS1.out ?_
          rotate_left
          · (intro xx hSw; obtain ⟨c0, c1, hl9⟩ := HCELL.out _ hSw; go_simp; (try with_reducible rfl))
          try simp only [Act.put, List.setIfInBounds_toArray, List.set_cons_zero, List.set_cons_succ]
          refine wpAnyH_take (i := 7) (oi := ⟨some 32, _, _, _, _, _⟩) (v := ?_) rfl (by kernel_rfl) (by kernel_rfl) (by kernel_rfl) (fun _ _ _ h => h.elim) (Or.inl ⟨by rfl, ?_⟩) HS1.out ?_
          rotate_left
          · (intro xx hSw; obtain ⟨c0, c1, hl9⟩ := HCELL.out _ hSw; go_simp; (try with_reducible rfl))
          try simp only [Act.put, List.setIfInBounds_toArray, List.set_cons_zero, List.set_cons_succ]
          refine wpAnyH_take (i := 8) (oi := ⟨some 11, _, _, _, _, _⟩) (v := ?_) rfl (by kernel_rfl) (by kernel_rfl) (by kernel_rfl) (fun _ _ _ h => h.elim) (Or.inl ⟨by rfl, ?_⟩) HS1.out ?_
          rotate_left
          · (intro xx hSw; obtain ⟨c0, c1, hl9⟩ := HCELL.out _ hSw; go_simp; (try with_reducible rfl))
          try simp only [Act.put, List.setIfInBounds_toArray, List.set_cons_zero, List.set_cons_succ]
          refine wpAnyH_take (i := 9) (oi := ⟨some 12, _, _, _, _, _⟩) (v := ?_) rfl (by kernel_rfl) (by kernel_rfl) (by kernel_rfl) (fun _ _ _ h => h.elim) (Or.inl ⟨by rfl, ?_⟩) HS1.out ?_
          rotate_left
          · (intro xx hSw; obtain ⟨c0, c1, hl9⟩ := HCELL.out _ hSw; go_simp; (try with_reducible rfl))
          try simp only [Act.put, List.setIfInBounds_toArray, List.set_cons_zero, List.set_cons_succ]
          refine wpAnyH_done (by kernel_rfl) ?_ _
          gi_wp2
          gi_meet
          case rel => exact ⟨rfl, HS1.out.1, HS1.out.2⟩
        case rest =>
        obtain ⟨rfl, hsv, htc⟩ := hcut
        obtain ⟨w8, hw8⟩ : ∃ x, wc = x := ⟨_, rfl⟩
        rw [hw8] at hsv htc ⊢
        clear hw8 wc HCELL HRT HLK
        have HSVC := Lib.hid hsv; have HTC := Lib.hid (HTN.out.trans htc)
        clear hsv htc
        cases hsome : (S.1 (i : Int)).isSome with
        | false =>
          have HSM := Lib.hid hsome
          clear hsome
          have HWK2 := HWK.out
          gi_wp2
          gi_roundg (m - (k + 1))
          case measure => omega
          case rel => exact ⟨k + 1, hlt, congrArg (Value.int .i64) HWK.out, by rw [HANYK.out]; exact HSM.out, HSVC.out, HTC.out, rfl⟩
        | true =>
          have HSM := Lib.hid hsome
          clear hsome
          have hall : anyIn H S.1 ks = true := by
            have h9 := HANYK.out
            rw [HSM.out] at h9
            unfold anyIn at h9 ⊢
            rw [List.any_eq_true] at h9 ⊢
            obtain ⟨x, hx, h⟩ := h9
            exact ⟨x, List.mem_of_mem_take hx, h⟩
          have hst : chg H H.length M0 (Y ++ [r]) = (imPut S.1 (r : Int) (H.length + S.2.length), S.2 ++ [r]) := by rw [chg_snoc, HS.out]; unfold chStep; rw [HKR.out, if_pos hall]
          have hno := HNO.out (H6M.out (by omega))
          have hf := HF.out; have hml := HML.out; have hs5 := HS5.out; have hlv := HLT.out; have hms := HMS.out
          have him : IMAt w8 mb (n0 + S.2.length) S.1 := by have h9 := HI.out.map; rw [HS.out] at h9; exact h9.same (HTC.out.block _ h9.lt hms.2)
          have hown : w8.ownsRow (W5.heap.size + 2) 3 1 v S.2.length (natRow S.2) := by have h9 := HI.out.own; rw [HS.out] at h9; exact own_same h9 (fun z hz => HTC.out.block z (h9.lt z hz).2 (by have := (h9.lt z hz).1; omega))
          have hbx := HTC.out.heap HI.out.box (by omega)
          have hb5 := HTC.out.heap HI.out.b5 (by omega)
          have hb3 := HTC.out.heap HI.out.b3 (by omega)
          obtain ⟨av, cv, rfl⟩ := own_shapeN hown
          obtain ⟨N, hN⟩ : ∃ n, S.2.length = n := ⟨_, rfl⟩
          rw [hN] at hown hbx him hst
          have hNb : N ≤ 1000000 := by have h1 := HSL.out; have h2 := HYN.out; have h3 := HSZ.out; omega
          have hrI : I64 (r : Int) := by have h1 := HRL.out; have h2 := HAL.out.len; have h3 := HBIG.out; unfold I64; omega
          have hHl : Hm.length = H.length := HAL.out.len.symm
          have hws : IntKind.i64.wrap ((H.length : Int) + (N : Int)) = (H.length : Int) + (N : Int) := by have := HBIG.out; simp [IntKind.wrap, IntKind.bits, IntKind.signed]; omega
          obtain ⟨U0, hU0⟩ : ∃ x, w8.drew = x := ⟨_, rfl⟩
          have him0 : IMAt U0 mb (n0 + N) S.1 := by rw [← hU0]; exact him.same rfl
          obtain ⟨W9, hput, him9, hgr9⟩ := im_put him0 hrI (H.length + N) (le_four HN0.out hNb) hno
          unfold imE at hput
          rw [show ((H.length + N : Nat) : Int) = (H.length : Int) + (N : Int) from by omega] at hput
          have HST := Lib.hid hst; have HOWN := Lib.hid hown; have HBX := Lib.hid hbx; have HB5' := Lib.hid hb5; have HB3' := Lib.hid hb3; have HNN := Lib.hid hN; have HNB := Lib.hid hNb; have HIM9 := Lib.hid him9; have HGR9 := Lib.hid hgr9; have HLM := Lib.hid hHl
          have HU0 := Lib.hid hU0
          have HCELL := Lib.hid (fun x (hx : Turns (fun k => k = mb) w8 x) => (⟨cell_box (hx.heap HB5'.out (by have := HML.out; omega)) rfl rfl, cell_box (hx.heap HB3'.out (by have := HML.out; omega)) rfl rfl, by have h9 := cell_box (hx.heap HSVC.out.box (fun e => HMS.out.1 e.symm)) (i := 2) rfl rfl; rw [HLM.out] at h9; exact h9, cell_box (hx.heap HBX.out (by have := HML.out; omega)) rfl rfl⟩ : x.cell? ⟨w.heap.size + 1, 0, none⟩ = some (.map (some mb)) ∧ x.cell? ⟨w.heap.size, 0, none⟩ = some (.pointer (some ⟨s, 0, none⟩)) ∧ x.cell? ⟨s, 2, none⟩ = some (.slice (some ⟨g, 0, none⟩) H.length cap) ∧ x.cell? ⟨w.heap.size + 1 + 1, 0, none⟩ = some (.slice av N cv)))
          clear hall hst hno hf hml hs5 hlv hms him hown hbx hb5 hb3 hN hNb hHl him0 him9 hgr9 i1 i2
          gi_upto_region 9 with fail
          refine wpIn_only ?_
          have HS0 := Lib.hid (show Turns (fun k => k = mb) w8 U0 by rw [← hU0]; exact Turns.drew _ _)
          refine wpIn_region_round hm2 (by kernel_rfl) (by rintro ⟨_, _, h⟩; exact h) ?_
          rw [hU0]
          refine wpAny_of_held (S := fun x => Turns (fun k => k = mb) w8 x) _ _ _ _ ?_
          clear hU0
          refine wpAnyH_take (i := 0) (oi := ⟨some 34, _, _, _, _, _⟩) (v := ?_) rfl (by kernel_rfl) (by kernel_rfl) (by kernel_rfl) (fun _ _ _ h => h.elim) (Or.inl ⟨by rfl, ?_⟩) HS0.out ?_
          rotate_left
          · (intro xx hSw; obtain ⟨c5, c3, c2, c7⟩ := HCELL.out _ hSw; go_simp; (try with_reducible rfl))
          try simp only [Act.put, List.setIfInBounds_toArray, List.set_cons_zero, List.set_cons_succ]
          refine wpAnyH_take (i := 1) (oi := ⟨some 35, _, _, _, _, _⟩) (v := ?_) rfl (by kernel_rfl) (by kernel_rfl) (by kernel_rfl) (fun _ _ _ h => h.elim) (Or.inl ⟨by rfl, ?_⟩) HS0.out ?_
          rotate_left
          · (intro xx hSw; obtain ⟨c5, c3, c2, c7⟩ := HCELL.out _ hSw; go_simp; (try with_reducible rfl))
          try simp only [Act.put, List.setIfInBounds_toArray, List.set_cons_zero, List.set_cons_succ]
          refine wpAnyH_take (i := 2) (oi := ⟨some 36, _, _, _, _, _⟩) (v := ?_) rfl (by kernel_rfl) (by kernel_rfl) (by kernel_rfl) (fun _ _ _ h => h.elim) (Or.inl ⟨by rfl, ?_⟩) HS0.out ?_
          rotate_left
          · (intro xx hSw; obtain ⟨c5, c3, c2, c7⟩ := HCELL.out _ hSw; go_simp; (try with_reducible rfl))
          try simp only [Act.put, List.setIfInBounds_toArray, List.set_cons_zero, List.set_cons_succ]
          refine wpAnyH_take (i := 3) (oi := ⟨some 37, _, _, _, _, _⟩) (v := ?_) rfl (by kernel_rfl) (by kernel_rfl) (by kernel_rfl) (fun _ _ _ h => h.elim) (Or.inl ⟨by rfl, ?_⟩) HS0.out ?_
          rotate_left
          · (intro xx hSw; obtain ⟨c5, c3, c2, c7⟩ := HCELL.out _ hSw; go_simp; (try with_reducible rfl))
          try simp only [Act.put, List.setIfInBounds_toArray, List.set_cons_zero, List.set_cons_succ]
          refine wpAnyH_take (i := 4) (oi := ⟨some 38, _, _, _, _, _⟩) (v := ?_) rfl (by kernel_rfl) (by kernel_rfl) (by kernel_rfl) (fun _ _ _ h => h.elim) (Or.inl ⟨by rfl, ?_⟩) HS0.out ?_
          rotate_left
          · (intro xx hSw; obtain ⟨c5, c3, c2, c7⟩ := HCELL.out _ hSw; go_simp; (try with_reducible rfl))
          try simp only [Act.put, List.setIfInBounds_toArray, List.set_cons_zero, List.set_cons_succ]
          refine wpAnyH_take (i := 5) (oi := ⟨some 39, _, _, _, _, _⟩) (v := ?_) rfl (by kernel_rfl) (by kernel_rfl) (by kernel_rfl) (fun _ _ _ h => h.elim) (Or.inl ⟨by rfl, ?_⟩) HS0.out ?_
          rotate_left
          · (intro xx hSw; obtain ⟨c5, c3, c2, c7⟩ := HCELL.out _ hSw; go_simp; (try with_reducible rfl))
          try simp only [Act.put, List.setIfInBounds_toArray, List.set_cons_zero, List.set_cons_succ]
          refine wpAnyH_take (i := 6) (oi := ⟨some 40, _, _, _, _, _⟩) (v := ?_) rfl (by kernel_rfl) (by kernel_rfl) (by kernel_rfl) (fun _ _ _ h => h.elim) (Or.inl ⟨by rfl, ?_⟩) HS0.out ?_
          rotate_left
          · (intro xx hSw; obtain ⟨c5, c3, c2, c7⟩ := HCELL.out _ hSw; go_simp; (try with_reducible rfl))
          try simp only [Act.put, List.setIfInBounds_toArray, List.set_cons_zero, List.set_cons_succ]
          refine wpAnyH_take (i := 7) (oi := ⟨some 41, _, _, _, _, _⟩) (v := ?_) rfl (by kernel_rfl) (by kernel_rfl) (by kernel_rfl) (fun _ _ _ h => h.elim) (Or.inl ⟨by rfl, ?_⟩) HS0.out ?_
          rotate_left
          · (intro xx hSw; obtain ⟨c5, c3, c2, c7⟩ := HCELL.out _ hSw; go_simp; (try with_reducible rfl))
          try simp only [Act.put, List.setIfInBounds_toArray, List.set_cons_zero, List.set_cons_succ]
          refine wpAnyH_take (i := 8) (oi := ⟨some 42, _, _, _, _, _⟩) (v := ?_) rfl (by kernel_rfl) (by kernel_rfl) (by kernel_rfl) (fun _ _ _ h => h.elim) (Or.inl ⟨by rfl, ?_⟩) HS0.out ?_
          rotate_left
          · (intro xx hSw; obtain ⟨c5, c3, c2, c7⟩ := HCELL.out _ hSw; go_simp; (try with_reducible rfl))
          try simp only [Act.put, List.setIfInBounds_toArray, List.set_cons_zero, List.set_cons_succ]
          refine wpAnyH_take (i := 9) (oi := ⟨some 43, _, _, _, _, _⟩) (v := ?_) rfl (by kernel_rfl) (by kernel_rfl) (by kernel_rfl) (fun _ _ _ h => h.elim) (Or.inl ⟨by rfl, ?_⟩) HS0.out ?_
          rotate_left
          · (intro xx hSw; obtain ⟨c5, c3, c2, c7⟩ := HCELL.out _ hSw; go_simp; (try with_reducible rfl))
          try simp only [Act.put, List.setIfInBounds_toArray, List.set_cons_zero, List.set_cons_succ]
          refine wpAnyH_ready (rs := [10]) (by kernel_rfl) (by simp) ?_
          refine AllReadyH.cons (o := ⟨none, _, _, _, _, _⟩) rfl (fun K hK => ?_) AllReadyH.nil
          go_simp
          have ht9 : Turns (fun k => k = mb) w8 W9 := ⟨HGR9.out.os.trans HS0.out.os, HGR9.out.tape.trans HS0.out.tape, HGR9.out.output.trans HS0.out.output, Nat.le_trans HS0.out.size HGR9.out.size, fun q hq hm => (HGR9.out.block q (Nat.lt_of_lt_of_le hq HS0.out.size) (fun e => hm (by injection e))).trans (HS0.out.block q hq hm)⟩
          have HT9 := Lib.hid ht9
          refine hK.out _ _ ht9 (fun _ => ?_)
          clear hK K ht9
          try simp only [Act.put, List.setIfInBounds_toArray, List.set_cons_zero, List.set_cons_succ]
          refine wpAnyH_done (by kernel_rfl) ?_ _
          obtain ⟨-, -, -, c7⟩ := HCELL.out _ HT9.out
          have hf := HF.out; have hml := HML.out; have hs5 := HS5.out; have hlv := HLT.out; have hms := HMS.out
          have hw8 : V.heap.size ≤ W9.heap.size := Nat.le_trans HTC.out.size HT9.out.size
          have hbx9 := HT9.out.heap HBX.out (by omega)
          have hown9 := own_same HOWN.out (fun z hz => HT9.out.block z (HOWN.out.lt z hz).2 (by have := (HOWN.out.lt z hz).1; omega))
          obtain ⟨b1, b2⟩ := b8n (r := N) (by have := HNB.out; omega)
          obtain ⟨i0, hi, hz0, hz1, hz2⟩ := info_parts info_int
          have HBX9 := Lib.hid hbx9; have HOWN9 := Lib.hid hown9; have B1 := Lib.hid b1; have B2 := Lib.hid b2; have HW8 := Lib.hid hw8
          have HBS := Lib.hid (show W5.heap.size + 2 ≤ W9.heap.size by omega)
          have h8u := (Array.getElem?_eq_some_iff.1 hbx9).1
          clear hbx9 hown9 b1 b2 hput hws hw8 hf hml hs5 hlv hms
          gi_wp2_with (gi_at_builtin; refine wpListIn_append_lies _ rfl (.tmp 44) (.tmp 46) 27 rfl (W5.heap.size + 2) 3 i0 (.int .i64 0) 1 8 Try.underlying27 hi hz0 hz1 hz2 rfl (by decide) (.slice av N cv) N (natRow S.2) rfl (HOWN9.out.alloc _) ⟨W9.heap.size, 0, none⟩ 1 1 [.int .i64 (r : Int)] rfl rfl (World.news_of_block (World.alloc_heap_new W9 _)) (by simp [Value.oneCell']) (by decide) B2.out B1.out (Nat.le_trans HBS.out (by simp)) ?_; intro g1 cap1 w7 hown1 hgr1 hly1; (have e7 : w7.heap[w.heap.size + 1 + 1]? = some (.cells #[.slice av N cv] 27) := (hgr1.block _ (by rw [World.size_alloc]; omega) (fun e => by have := (HOWN9.out.lt _ e.symm).1; have := HS5.out; omega)).trans ((Below.heap_alloc _ _ _ h8u).trans HBX9.out)); (have e75 : w7.cell? ⟨w.heap.size + 1 + 1, 0, none⟩ = some (.slice av N cv) := cell_box e7 rfl rfl); (have f75 : w7.frozen? ⟨w.heap.size + 1 + 1, 0, none⟩ = false := IsC.frozen ⟨_, _, e7⟩); (have HE7 := Lib.hid e7); (have HOW1 := Lib.hid hown1); (have HGR1 := Lib.hid hgr1); clear e7 hown1 hgr1 hly1)
          have hf := HF.out; have hml := HML.out; have hs5 := HS5.out; have hlv := HLT.out; have hms := HMS.out; have hw8 := HW8.out; have hrl := HRL.out
          have hgV := HV.out.far
          obtain ⟨F, hFF⟩ : ∃ x, w7.setCell ⟨w.heap.size + 1 + 1, 0, none⟩ (.slice (some ⟨g1, 0, none⟩) (N + 1) cap1) = x := ⟨_, rfl⟩
          have hob : ∀ z, (Value.slice av N cv).ownBlock = some z → W5.heap.size + 2 ≤ z ∧ z < W9.heap.size := fun z hz => HOWN9.out.lt z hz
          have far : ∀ z, z < W9.heap.size → z ≠ w.heap.size + 1 + 1 → (Value.slice av N cv).ownBlock ≠ some z → F.heap[z]? = W9.heap[z]? := fun z hz hne ho => by
            rw [← hFF]
            exact (Below.heap_setCell _ _ _ z hne).trans ((HGR1.out.block z (by rw [World.size_alloc]; omega) (fun e => ho e.symm)).trans (Below.heap_alloc _ _ _ hz))
          have ht : ∀ z, z < V.heap.size → z ≠ g → z ≠ mb → z ≠ w.heap.size + 1 + 1 → (Value.slice av N cv).ownBlock ≠ some z → F.heap[z]? = V.heap[z]? := fun z hz h1 h2 h3 h4 => (far z (by omega) h3 h4).trans ((HT9.out.block z (Nat.lt_of_lt_of_le hz HTC.out.size) h2).trans (HTC.out.block z hz h1))
          have hkp9 : Kp w.heap.size (fun k => k = s ∨ k = g ∨ k = mb) w W9 := ⟨HT9.out.os.trans (HTC.out.os.trans HI.out.kp.os), HT9.out.tape.trans (HTC.out.tape.trans HI.out.kp.tape), HT9.out.output.trans (HTC.out.output.trans HI.out.kp.output), Nat.le_trans HI.out.kp.size hw8, fun q hq hm => (HT9.out.block q (by have := HI.out.kp.size; have := HTC.out.size; omega) (fun h => hm (.inr (.inr h)))).trans ((HTC.out.block q (by have := HI.out.kp.size; omega) (fun h => hm (.inr (.inl h)))).trans (HI.out.kp.block q hq hm))⟩
          have hkpF : Kp w.heap.size (fun k => k = s ∨ k = g ∨ k = mb) w F := by
            rw [← hFF]
            exact ((hkp9.alloc hkp9.size _).grown HGR1.out (Nat.le_trans hkp9.size (by simp)) (fun z hz => .inl (by have := hob z hz; omega))).setCell (.inl (by dsimp only; omega)) _
          have hsvF : SV B s g cap L C (K + 1) F Hm := HSVC.out.same ((far s (by have := HTC.out.size; have := HT9.out.size; omega) (by omega) (fun e => by have := hob _ e; omega)).trans (HT9.out.block s (by have := HTC.out.size; omega) (fun e => hms.1 e.symm))) ((far g (by have := HTC.out.size; have := HT9.out.size; omega) (by omega) (fun e => by have := hob _ e; omega)).trans (HT9.out.block g (by have := HTC.out.size; omega) (fun e => hms.2 e.symm)))
          have hg1 : w.heap.size + 1 + 1 ≠ g1 := by have := (HOW1.out.lt g1 rfl).1; omega
          rw [hFF]
          refine ⟨⟨ht _ (by omega) (by omega) (by omega) (by omega) (fun e => by have := hob _ e; omega), ht _ (by omega) (by omega) (by omega) (by omega) (fun e => by have := hob _ e; omega)⟩, ⟨.slice (some ⟨g1, 0, none⟩) (N + 1) cap1, by rw [← hFF]; exact box_set HE7.out, ?_, ?_, hkpF, ?_, ?_⟩, hsvF, HAL.out, HMM.out⟩
          · rw [HST.out]
            dsimp only
            rw [List.length_append, List.length_singleton, HNN.out, show natRow (S.2 ++ [r]) = natRow S.2 ++ [.int .i64 (r : Int)] by simp [natRow]]
            exact own_same HOW1.out (fun z hz => by rw [← hFF]; exact Below.heap_setCell _ _ _ z (fun (e : z = w.heap.size + 1 + 1) => by have := (HOW1.out.lt z hz).1; omega))
          · rw [HST.out]
            dsimp only
            rw [List.length_append, List.length_singleton, HNN.out]
            exact HIM9.out.same (far mb (by have := HTC.out.size; have := HT9.out.size; omega) (by omega) (fun e => by have := hob _ e; omega))
          · exact (ht _ (by omega) (by omega) (by omega) (by omega) (fun e => by have := hob _ e; omega)).trans HI.out.b3
          · exact (ht _ (by omega) (by omega) (by omega) (by omega) (fun e => by have := hob _ e; omega)).trans HI.out.b5
      · obtain rfl : k = m := by omega
        have hall := HANY.out
        rw [List.take_of_length_le (by rw [HKL.out]; exact Nat.le_refl _)] at hall
        have HALL := Lib.hid hall
        clear hall
        gi_wp2
        have hf := HF.out; have hml := HML.out; have hs5 := HS5.out; have hlv := HLT.out; have hms := HMS.out
        have hst : chg H H.length M0 (Y ++ [r]) = chg H H.length M0 Y := by rw [chg_snoc, HS.out]; unfold chStep; rw [HKR.out, if_neg (by rw [HALL.out]; decide)]
        refine ⟨⟨HTN.out.block _ (by omega) (by omega), HTN.out.block _ (by omega) (by omega)⟩, ⟨v, HTN.out.heap HI.out.box (by omega), ?_, ?_, ?_, HTN.out.heap HI.out.b3 (by omega), HTN.out.heap HI.out.b5 (by omega)⟩, HSVR.out, HAL.out, HMM.out⟩
        · rw [hst]; exact own_same HI.out.own (fun z hz => HTN.out.block z (HI.out.own.lt z hz).2 (by have := (HI.out.own.lt z hz).1; omega))
        · rw [hst]; exact HI.out.map.same (HTN.out.block _ HI.out.map.lt hms.2)
        · exact ⟨HTN.out.os.trans HI.out.kp.os, HTN.out.tape.trans HI.out.kp.tape, HTN.out.output.trans HI.out.kp.output, Nat.le_trans HI.out.kp.size HTN.out.size, fun q hq hm => (HTN.out.block q (by have := HI.out.kp.size; omega) (fun h => hm (.inr (.inl h)))).trans (HI.out.kp.block q hq hm)⟩
  case done =>
    rintro Y ⟨m1, Hm⟩ V rfl hm1 ⟨hsv, hal, hmm⟩ ⟨v, I⟩ hlt hK
    dsimp only at hsv hal hmm hm1
    subst hm1
    have e5 : V.cell? ⟨w.heap.size + 1 + 1, 0, none⟩ = some v := cell_box I.box rfl rfl
    have HSVV := Lib.hid hsv; have HAL := Lib.hid hal; have HMM := Lib.hid hmm; have HI := Lib.hid I; have HKK := Lib.hid hK
    clear hsv hal hmm I hK
    gi_wp2
    refine ⟨by simp, .inl ⟨_, _, rfl, run_takeDeferred HKK.out, ?_⟩⟩
    have hf := HF.out; have hw5 := HS5.out; have hml := HML.out
    have far : ∀ z, z ≠ W5.heap.size → (V.putObj W5.heap.size (.deferred none)).heap[z]? = V.heap[z]? := fun z hz => World.putObj_heap_other hz
    refine ⟨_, results_tmp rfl _ _ _, v, Hm, rfl, ?_, HSVV.out.same (far s (by omega)) (far g (by omega)), HAL.out, HMM.out, HI.out.map.same (far mb (by omega)), ?_⟩
    · exact own_baseN (own_same HI.out.own (fun z hz => far z (by have := (HI.out.own.lt z hz).1; omega))) (by omega)
    · exact ⟨HI.out.kp.os, HI.out.kp.tape, HI.out.kp.output, by rw [World.putObj_size]; exact HI.out.kp.size, fun i hi hm => (far i (by omega)).trans (HI.out.kp.block i hi hm)⟩
  case stop =>
    intro c Y m V _ _ h _ _
    exact h.elim
end
end Go.Proofs.Yteolbbgnkbcfmaa
