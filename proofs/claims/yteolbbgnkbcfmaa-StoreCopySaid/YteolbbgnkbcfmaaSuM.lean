/- store.copyOf; store.replacements. -/
import Derived.Test.YteolbbgnkbcfmaaStQ
import Derived.Test.YteolbbgnkbcfmaaStL
namespace Go.Proofs.Yteolbbgnkbcfmaa
open Go Go.RowKit
open Tp (T)
open Sg (Of Rt Den Dens Alk Mkd trav travs rootOf kidsOf)
section
variable {B s g cap : Nat} {L C K : Int} {w : World} {H : List SNd}
/-- What stands in a root's place. -/
def cpOf (M : IMap) (r : Nat) : Nat := (M (r : Int)).getD r
set_option maxRecDepth 100000 in
theorem copyOf12_any (h : SV B s g cap L C K w H) {p : Nat} {d : SNd} (hd : H[p]? = some d) {mb n : Nat} {M : IMap} (hm : IMAt w mb n M) (hmg : mb ≠ g) (hi : I64 (d.up : Int)) :
    Calls Try.prog 85 #[.pointer (some ⟨s, 0, none⟩), .int .i64 (p : Int), .map (some mb)] w fun e w' => e = .returned (.int .i64 (cpOf M d.up : Int)) ∧ SV B s g cap L C K w' H ∧ Kp w.heap.size (fun k => k = g) w w' ∧ IMAt w' mb n M := by
  have hrt := root12_any h hd
  obtain ⟨r, hr⟩ : ∃ r, d.up = r := ⟨_, rfl⟩
  rw [hr] at hrt hi ⊢
  have HRT := Lib.hid hrt; have HM := Lib.hid hm; have HI := Lib.hid hi; have HMG := Lib.hid hmg
  clear hrt hm hi hmg h hd hr
  go_enter Try.func85, Try.ntmps85
  go_upto_region 1 with fail
  go_wp2_with fail
  refine HRT.out.mono ?_
  rintro e w1 ⟨rfl, hsv, hk⟩
  have hm1 : IMAt w1 mb n M := HM.out.same (hk.block _ HM.out.lt HMG.out)
  have hlk := im_look hm1 HI.out true
  unfold imV at hlk
  have HSV := Lib.hid hsv; have HK := Lib.hid hk; have HM1 := Lib.hid hm1
  clear hsv hk hm1
  cases hM : M (r : Int) with
  | none =>
    rw [hM] at hlk
    have HMV := Lib.hid hM
    clear hM
    go_wp2_with fail
    go_ret
    refine ⟨?_, HSV.out, HK.out, HM1.out⟩
    unfold cpOf; rw [HMV.out]; rfl
  | some e1 =>
    rw [hM] at hlk
    have HMV := Lib.hid hM
    clear hM
    unfold imE at hlk
    go_wp2_with fail
    go_ret
    refine ⟨?_, HSV.out, HK.out, HM1.out⟩
    unfold cpOf; rw [HMV.out]; rfl
/-- What the first k numbers are to be replaced by. -/
def imUp (fs ts : List Nat) : Nat → IMap
  | 0 => fun _ => none
  | k + 1 => imPut (imUp fs ts k) ((fs.getD k 0 : Nat) : Int) (ts.getD k 0)
theorem imUp_none {fs ts : List Nat} {i : Int} : ∀ k, (∀ j, j < k → i ≠ ((fs.getD j 0 : Nat) : Int)) → imUp fs ts k i = none
  | 0, _ => rfl
  | k + 1, h => by
    unfold imUp imPut
    rw [if_neg (h k (by omega))]
    exact imUp_none k (fun j hj => h j (by omega))
theorem ints_nats {W : World} {l : List Nat} {a : Option Addr} (h : NatsAt W l a) : IntsAt W (l.map fun (n : Nat) => (n : Int)) a := fun i hi => by
  have hi' : i < l.length := by simpa using hi
  obtain ⟨b, rfl, hc⟩ := h i hi'
  exact ⟨b, 0, rfl, by rw [Nat.zero_add]; simpa using hc⟩
theorem all_ok {l : List Nat} {n : Nat} (h : ∀ x ∈ l, x < n) : (l.map fun (n : Nat) => (n : Int)).all (okN n) = true := by
  rw [List.all_eq_true]
  intro x hx
  obtain ⟨y, hy, rfl⟩ := List.mem_map.1 hx
  unfold okN
  have := h y hy
  simp; omega
set_option maxRecDepth 100000 in
set_option maxHeartbeats 4000000 in
theorem repl12_any (h : SV B s g cap L C K w H) (fs ts : List Nat) (fa ta : Option Addr) (fc tc : Nat) (hlen : fs.length = ts.length) (hl : fs.length ≤ 1000000) (hfa : NatsAt w fs fa) (hta : NatsAt w ts ta)
    (hfg : ∀ b o, fa = some ⟨b, o, none⟩ → b ≠ g ∧ b < w.heap.size) (htg : ∀ b o, ta = some ⟨b, o, none⟩ → b ≠ g ∧ b < w.heap.size)
    (hfv : ∀ i (hi : i < fs.length), ∃ d : SNd, H[fs[i]]? = some d ∧ d.up = fs[i] ∧ d.c.kind = 6) (hnd : fs.Nodup) (htl : ∀ x ∈ ts, x < H.length) (hbig : H.length ≤ 1000000) :
    Calls Try.prog 82 #[.pointer (some ⟨s, 0, none⟩), .slice fa fs.length fc, .slice ta ts.length tc] w fun e w' => ∃ mb, e = .returned (.tuple #[.map (some mb), .bool true]) ∧ w.heap.size ≤ mb ∧ IMAt w' mb fs.length (imUp fs ts fs.length) ∧ SV B s g cap L C K w' H ∧ Kp w.heap.size (fun k => k = g) w w' := by
  have hfl : ∀ x ∈ fs, x < H.length := fun x hx => by
    obtain ⟨i, hi, rfl⟩ := List.mem_iff_getElem.1 hx
    obtain ⟨d, h1, _⟩ := hfv i hi
    exact (List.getElem?_eq_some_iff.1 h1).1
  have hh1 := have12_any h (fs.map fun (n : Nat) => (n : Int)) fa fc (by rw [List.length_map]; unfold maxLen; omega) (ints_nats hfa)
  have hh2 := have12_any h (ts.map fun (n : Nat) => (n : Int)) ta tc (by rw [List.length_map]; unfold maxLen; omega) (ints_nats hta)
  rw [all_ok hfl, List.length_map] at hh1
  rw [all_ok htl, List.length_map] at hh2
  obtain ⟨n, hn⟩ : ∃ n, fs.length = n := ⟨_, rfl⟩
  rw [hn] at hlen hl hh1 ⊢
  rw [← hlen] at hh2 ⊢
  have hmk := @run_makeMap Try.prog
  have hnn : (((n : Int)) != (n : Int)) = false := by simp
  have HH1 := Lib.hid hh1; have HH2 := Lib.hid hh2; have HN := Lib.hid hn; have HL := Lib.hid hl; have HFA := Lib.hid hfa; have HTA := Lib.hid hta; have HFG := Lib.hid hfg; have HTG := Lib.hid htg; have HFV := Lib.hid hfv; have HND := Lib.hid hnd; have HSV := Lib.hid h; have HLEN := Lib.hid hlen; have HBIG := Lib.hid hbig; have HF := Lib.hid h.far
  clear hh1 hh2 hn hl hfa hta hfg htg hfv hnd h hlen hfl htl hbig
  go_enter Try.func82, Try.ntmps82
  go_upto_region 1 with fail
  go_wp2_with fail
  refine HH1.out.mono ?_
  rintro e wq ⟨rfl, hq⟩
  rw [hq]; clear hq wq
  go_wp2_with fail
  refine HH2.out.mono ?_
  rintro e wq ⟨rfl, hq⟩
  rw [hq]; clear hq wq HH1 HH2
  go_upto_region 4 with fail
  obtain ⟨W1, hW1⟩ : ∃ W, w.alloc (.map #[] 0) = W := ⟨_, rfl⟩
  rw [hW1]
  have hb1 : Below w.heap.size w W1 := by rw [← hW1]; exact (Below.refl _ _).alloc (Nat.le_refl _) _
  have hi1 : IMAt W1 w.heap.size 0 (fun _ => none) := by rw [← hW1]; exact im_new w
  have hs1 : W1.heap.size = w.heap.size + 1 := by rw [← hW1]; simp
  have HB1 := Lib.hid hb1; have HI1 := Lib.hid hi1; have HS1 := Lib.hid hs1; have SV1 := Lib.hid (HSV.out.below hb1)
  clear hW1 hb1 hi1 hs1 hmk
  go_wp2_with fail
  go_loopg [34] n (fun gk v wr => ∃ k : Nat, k ≤ n ∧ v = .int .i64 (k : Int) ∧ IMAt wr w.heap.size k (imUp fs ts k) ∧ SV B s g cap L C K wr H ∧ Kp w.heap.size (fun k => k = g) w wr ∧ gk = n - k)
  case atStart => exact ⟨0, Nat.zero_le _, rfl, HI1.out, SV1.out, .of_below HB1.out, rfl⟩
  case round =>
    obtain ⟨k, hkn, rfl, him, hsv, hkp, rfl⟩ := hrel
    have HIM := Lib.hid him; have HSK := Lib.hid hsv; have HKP := Lib.hid hkp
    clear him hsv hkp
    by_cases hlt : k < n
    · have hkf : k < fs.length := by rw [HN.out]; exact hlt
      have hkt : k < ts.length := by rw [← HLEN.out]; exact hlt
      obtain ⟨fb, rfl, hcf⟩ := HFA.out k hkf
      obtain ⟨tb, rfl, hct⟩ := HTA.out k hkt
      obtain ⟨f1, f2⟩ := HFG.out fb 0 rfl
      obtain ⟨t1, t2⟩ := HTG.out tb 0 rfl
      obtain ⟨d, hd, hdu, hdk⟩ := HFV.out k hkf
      have hgf : fs.getD k 0 = fs[k] := by rw [List.getD_eq_getElem?_getD, List.getElem?_eq_getElem hkf]; rfl
      have hgt : ts.getD k 0 = ts[k] := by rw [List.getD_eq_getElem?_getD, List.getElem?_eq_getElem hkt]; rfl
      have hno : imUp fs ts k ((fs[k] : Nat) : Int) = none := imUp_none k (fun j hj e => by
        have hjl : j < fs.length := by omega
        rw [List.getD_eq_getElem?_getD, List.getElem?_eq_getElem hjl] at e
        have e2 : fs[k] = fs[j] := by have h9 : ((fs[k] : Nat) : Int) = ((fs[j] : Nat) : Int) := e; omega
        exact (List.pairwise_iff_getElem.1 HND.out) j k hjl hkf hj e2.symm)
      obtain ⟨f, hf⟩ : ∃ q, fs[k] = q := ⟨_, rfl⟩
      obtain ⟨t, ht⟩ : ∃ q, ts[k] = q := ⟨_, rfl⟩
      rw [hf] at hcf hd hdu hgf hno
      rw [ht] at hct hgt
      have c5 : wr.cell? ⟨fb, k, none⟩ = some (.int .i64 (f : Int)) := HKP.out.cell hcf f2 f1
      obtain ⟨i1, i2⟩ := pt_int hlt
      have hrt := root12_any HSK.out hd
      rw [hdu] at hrt
      have hfl := (List.getElem?_eq_some_iff.1 hd).1
      have hfI : I64 (f : Int) := by have := HBIG.out; unfold I64; omega
      have hwk : wrap64 ((k : Int) + 1) = ((k + 1 : Nat) : Int) := by have := HL.out; unfold wrap64; omega
      have HRT := Lib.hid hrt; have HNO := Lib.hid hno; have HGF := Lib.hid hgf; have HGT := Lib.hid hgt; have HD := Lib.hid hd; have HDK := Lib.hid hdk; have HFI := Lib.hid hfI; have HCT := Lib.hid hct; have HT12 := Lib.hid (And.intro t1 t2); have HFLT := Lib.hid hfl; have HWK := Lib.hid hwk
      clear hrt hno hgf hgt hd hdk hdu hfI hct t1 t2 hfl hkf hkt hf ht hcf f1 f2 hwk
      go_upto_region 7 with fail
      go_wp2_with fail
      refine HRT.out.mono ?_
      clear c5
      rintro e w2 ⟨rfl, hsv, hk⟩
      have hkp2 := HKP.out.trans (hk.mono HKP.out.size (fun _ _ h => h))
      have him2 : IMAt w2 w.heap.size k (imUp fs ts k) := HIM.out.same (hk.block _ HIM.out.lt (by have := HF.out; omega))
      have hlk := im_look him2 HFI.out true
      unfold imV at hlk
      rw [HNO.out] at hlk
      obtain ⟨W', hput, him3, hgr⟩ := im_put him2 HFI.out t (by have := HL.out; omega) HNO.out
      obtain ⟨c0, c1, c2, c3⟩ := hsv.sbox
      have ck := (hsv.node HD.out).1
      rw [HDK.out] at ck
      have c6 : w2.cell? ⟨tb, k, none⟩ = some (.int .i64 (t : Int)) := hkp2.cell HCT.out HT12.out.2 HT12.out.1
      have i3 : 0 ≤ (f : Int) := by omega
      have i4 : (f : Int) < (H.length : Int) := by have := HFLT.out; omega
      unfold imE at hput
      have HSV2 := Lib.hid hsv; have HKP2 := Lib.hid hkp2; have HI3 := Lib.hid him3; have HGR := Lib.hid hgr
      have HWK2 := HWK.out
      clear hsv hkp2 him2 him3 hgr hk HRT
      go_wp2_with fail
      go_roundg (n - (k + 1))
      case measure => omega
      case rel =>
        have hf := HF.out
        have hgo : ∀ z, z < w.heap.size → W'.heap[z]? = w2.heap[z]? := fun z hz => HGR.out.block z (Nat.lt_of_lt_of_le hz HKP2.out.size) (fun e => by injection e with e; omega)
        refine ⟨k + 1, hlt, congrArg (Value.int .i64) HWK.out, ?_, HSV2.out.same (hgo s (by omega)) (hgo g (by omega)), ⟨HGR.out.os.trans HKP2.out.os, HGR.out.tape.trans HKP2.out.tape, HGR.out.output.trans HKP2.out.output, Nat.le_trans HKP2.out.size HGR.out.size, fun i hi hm => (hgo i hi).trans (HKP2.out.block i hi hm)⟩, rfl⟩
        unfold imUp
        rw [HGF.out, HGT.out]
        exact HI3.out
    · obtain rfl : k = n := by omega
      go_wp2_with fail
      refine bodyPost_ret (v := .tuple #[.map (some w.heap.size), .bool true]) (by simp [results, Try.f82, go_sem]) rfl ?_
      exact ⟨w.heap.size, rfl, Nat.le_refl _, HIM.out, HSK.out, HKP.out⟩
end
end Go.Proofs.Yteolbbgnkbcfmaa
