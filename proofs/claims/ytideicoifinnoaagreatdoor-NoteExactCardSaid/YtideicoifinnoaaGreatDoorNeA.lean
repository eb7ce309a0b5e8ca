/- The page's Num (as in stage 1's texts). The page's Text. -/
import Derived.Test.YtideicoifinnoaaGreatDoorNlA
import Derived.Test.YtideicoifinnoaaGreatDoorSeqA
namespace Go.Proofs.YtideicoifinnoaaGreatDoor
open Go Go.RowKit
open Go.Proofs

theorem dig_slice64 (d : Nat) (h : d < 10) : ∀ w : World, (Instr.slice 9 (.string { data := #[48, 49, 50, 51, 52, 53, 54, 55, 56, 57] }) (some (.int .u64 (d : Int))) (some (.int .u64 ((d : Int) + 1))) none).run Tryz.prog w = .ok (.string { data := #[UInt8.ofNat (48 + d)] }) w :=
  match d, h with
  | 0, _ => fun _ => by kernel_rfl
  | 1, _ => fun _ => by kernel_rfl
  | 2, _ => fun _ => by kernel_rfl
  | 3, _ => fun _ => by kernel_rfl
  | 4, _ => fun _ => by kernel_rfl
  | 5, _ => fun _ => by kernel_rfl
  | 6, _ => fun _ => by kernel_rfl
  | 7, _ => fun _ => by kernel_rfl
  | 8, _ => fun _ => by kernel_rfl
  | 9, _ => fun _ => by kernel_rfl
  | _ + 10, h => absurd h (by omega)

/-- What the loop over the digits keeps. -/
def DigInv (U v : Nat) (t : List UInt8) : Prop :=
  (t = [] ∧ v = U) ∨ (t ≠ [] ∧ 0 < v ∧ Lib.decDigits U = Lib.decDigits v ++ t) ∨ (t ≠ [] ∧ v = 0 ∧ Lib.decDigits U = t)
theorem dinv_step {U v : Nat} {t : List UInt8} (h : DigInv U v t) (h9 : 9 < v) : DigInv U (v / 10) (UInt8.ofNat (48 + v % 10) :: t) := by
  have e : Lib.decDigits v = Lib.decDigits (v / 10) ++ [UInt8.ofNat (48 + v % 10)] := by
    rw [Lib.decDigits, dif_neg (by omega)]
  rcases h with ⟨rfl, rfl⟩ | ⟨_, _, h3⟩ | ⟨_, h2, _⟩
  · exact Or.inr (Or.inl ⟨by simp, by omega, e⟩)
  · refine Or.inr (Or.inl ⟨by simp, by omega, ?_⟩)
    rw [h3, e]; simp
  · omega
theorem dinv_len {U v : Nat} {t : List UInt8} (h : DigInv U v t) (hU : U < 18446744073709551616) : t.length ≤ 20 := by
  have h1 := Wd.dec_len20 U hU
  rcases h with ⟨rfl, _⟩ | ⟨_, _, h3⟩ | ⟨_, _, h3⟩
  · simp
  · rw [h3] at h1; simp at h1; omega
  · rw [h3] at h1; omega

set_option maxHeartbeats 2000000 in
theorem rdigits_any (U : Int) (h0 : 0 ≤ U) (h1 : U ≤ 9223372036854775808) (w : World) :
    Calls Tryz.prog 34 #[.int .u64 U] w fun e w' => e = .returned (.string ⟨(Lib.decDigits U.toNat).toArray⟩) ∧ w = w' := by
  have hU : U.toNat < 18446744073709551616 := by omega
  have HU := Lib.hid hU; clear hU
  go_enter Tryz.func34, Tryz.ntmps34
  go_wp2_with fail
  go_loop [0, 3] (fun uv sv => ∃ (v : Int) (t : List UInt8), uv = .int .u64 v ∧ sv = .string ⟨t.toArray⟩ ∧ 0 ≤ v ∧ v ≤ 9223372036854775808 ∧ DigInv U.toNat v.toNat t) (fun uv sv => 2 * (intOf uv).toNat + (1 - strLen sv))
  case atStart => exact ⟨U, [], rfl, rfl, h0, h1, Or.inl ⟨rfl, rfl⟩⟩
  case round =>
    obtain ⟨v, t, rfl, rfl, hv0, hv1, hinv⟩ := hrel
    have htl := dinv_len hinv HU.out
    have HI := Lib.hid hinv; clear hinv
    by_cases h9 : 9 < v
    · obtain ⟨d, hd⟩ : ∃ d : Nat, v % 10 = (d : Int) := ⟨(v % 10).toNat, by omega⟩
      have hsl := dig_slice64 d (by omega)
      rw [← hd] at hsl
      have hst := dinv_step HI.out (by omega)
      have e1 : v.toNat / 10 = (v / 10).toNat := by omega
      have e2 : v.toNat % 10 = d := by omega
      rw [e1, e2] at hst
      have HS := Lib.hid hst
      have HD := Lib.hid hd
      clear hd hst e1 e2
      go_wp2_with fail
      go_round
      case rel => exact ⟨_, UInt8.ofNat (48 + d) :: t, rfl, by (congr 1; apply ba_ext2; simp), by omega, by omega, HS.out⟩
      case measure => simp [intOf]; omega
    · by_cases ht : t = []
      · subst ht
        by_cases hz : v = 0
        · subst hz
          have hsl := dig_slice64 0 (by omega)
          have hsl' : ∀ w : World, (Instr.slice 9 (.string { data := #[48, 49, 50, 51, 52, 53, 54, 55, 56, 57] }) (some (.int .u64 0)) (some (.int .u64 1)) none).run Tryz.prog w = .ok (.string { data := #[48] }) w := hsl
          have hst : DigInv U.toNat 0 [48] := by
            rcases HI.out with ⟨_, h⟩ | ⟨h, _⟩ | ⟨h, _⟩
            · refine Or.inr (Or.inr ⟨by simp, rfl, ?_⟩)
              rw [← h]; exact Lib.decDigits_one (i := 0) (by decide)
            · exact absurd rfl h
            · exact absurd rfl h
          have HS := Lib.hid hst; clear hst hsl
          go_wp2_with fail
          go_round
          case rel => exact ⟨0, [48], rfl, rfl, by omega, by omega, HS.out⟩
          case measure => simp [intOf, strLen, Lib.size_eq]
        · obtain ⟨d, hd⟩ : ∃ d : Nat, v = (d : Int) := ⟨v.toNat, by omega⟩
          subst hd
          have hsl := dig_slice64 d (by omega)
          have hfin : Lib.decDigits U.toNat = [UInt8.ofNat (48 + d)] := by
            rcases HI.out with ⟨_, h⟩ | ⟨h, _⟩ | ⟨h, _⟩
            · rw [← h, Int.toNat_natCast, Lib.decDigits, dif_pos (by omega)]
            · exact absurd rfl h
            · exact absurd rfl h
          have HF := Lib.hid hfin; clear hfin
          have hd0 : (0 : Int) < (d : Int) := by omega
          have hdz : ((d : Int) == 0) = false := by rw [beq_eq_false_iff_ne]; omega
          clear hz
          go_wp2_with fail
          go_ret
          exact ⟨ret_string (by rw [HF.out]; simp), rfl⟩
      · have hte : t.isEmpty = false := by
          cases t with
          | nil => exact absurd rfl ht
          | cons a r => rfl
        have HNE := Lib.hid ht; clear ht
        by_cases hz : v = 0
        · subst hz
          have hfin : Lib.decDigits U.toNat = t := by
            rcases HI.out with ⟨h, _⟩ | ⟨_, h, _⟩ | ⟨_, _, h⟩
            · exact absurd h HNE.out
            · exact absurd h (by decide)
            · exact h
          have HF := Lib.hid hfin; clear hfin
          go_wp2_with fail
          go_ret
          exact ⟨ret_string (by rw [HF.out]), rfl⟩
        · obtain ⟨d, hd⟩ : ∃ d : Nat, v = (d : Int) := ⟨v.toNat, by omega⟩
          subst hd
          have hsl := dig_slice64 d (by omega)
          have hfin : Lib.decDigits U.toNat = UInt8.ofNat (48 + d) :: t := by
            rcases HI.out with ⟨h, _⟩ | ⟨_, _, h⟩ | ⟨_, h, _⟩
            · exact absurd h HNE.out
            · rw [h, Int.toNat_natCast, Lib.decDigits, dif_pos (by omega)]; rfl
            · simp at h; omega
          have HF := Lib.hid hfin; clear hfin
          have hd0 : (0 : Int) < (d : Int) := by omega
          clear hz
          go_wp2_with fail
          go_ret
          exact ⟨ret_string (by rw [HF.out]; simp), rfl⟩

set_option maxHeartbeats 1000000 in
theorem rnum_any (n : Int) (h : Wd.inI64 n) (w : World) :
    Calls Tryz.prog 22 #[.int .i64 n] w fun e w' => e = .returned (.string ⟨(Wd.num n).toArray⟩) ∧ w = w' := by
  obtain ⟨hlo, hhi⟩ := h
  have hlen := Wd.dec_len20 n.natAbs (by omega)
  by_cases hn : n < 0
  · obtain ⟨e1, _⟩ := Wd.num_neg hn
    have E1 := Lib.hid e1; clear e1
    have ea : (-(n + 1) + 1).toNat = n.natAbs := by omega
    have EA := Lib.hid ea; clear ea
    go_enter Tryz.func22, Tryz.ntmps22
    go_wp2_with fail
    refine (rdigits_any _ (by omega) (by omega) _).mono ?_
    rintro e w' ⟨rfl, rfl⟩
    rw [EA.out]
    go_wp2_with fail
    go_ret
    exact ⟨ret_string (by rw [E1.out]; simp), rfl⟩
  · obtain ⟨e1, _⟩ := Wd.num_pos hn
    have E1 := Lib.hid e1; clear e1
    go_enter Tryz.func22, Tryz.ntmps22
    go_wp2_with fail
    refine (rdigits_any _ (by omega) (by omega) _).mono ?_
    rintro e w' ⟨rfl, rfl⟩
    go_wp2_with fail
    go_ret
    exact ⟨ret_string (by rw [E1.out]), rfl⟩
end Go.Proofs.YtideicoifinnoaaGreatDoor
namespace Go.Proofs.YtideicoifinnoaaGreatDoor
open Go Go.RowKit
open Tp (T)

theorem text_bound {t : T} (hr : Tp.right t = true) (hs : Tp.size t ≤ 600) : (Nt.text t).length ≤ 25200 ∧ (Nt.inner t).length ≤ 25202 := by
  have h1 := Nt.text_len t (right_fits t hr)
  have h2 : (Nt.inner t).length ≤ (Nt.text t).length + 2 := Nt.paren_len _ _
  omega
set_option maxRecDepth 100000 in
/-- A kid's text. -/
theorem rinner_of (t : T) (a : Option Addr) (cap : Nat) (w : World) (hr : Tp.right t = true) (hs : Tp.size t ≤ 600) (hty : TyAt (LT w.heap.size) w t a cap)
    (ht : ∀ w1, TyAt (LT w1.heap.size) w1 t a cap → Calls Tryz.prog 8 #[tv t a cap] w1 fun e w' => e = .returned (.string ⟨(Nt.text t).toArray⟩) ∧ Below w1.heap.size w1 w') :
    Calls Tryz.prog 23 #[tv t a cap] w fun e w' => e = .returned (.string ⟨(Nt.inner t).toArray⟩) ∧ Below w.heap.size w w' := by
  have hlen := (text_bound hr hs).1
  have hb0 : Below w.heap.size w (w.alloc (.cells #[.int .i64 t.kind, .int .i64 t.num, .slice a t.kids.length cap] 24)) := (Below.refl _ _).alloc (Nat.le_refl _) _
  have h1 := ht _ (ty_later hty hb0)
  have hin : Nt.inner t = if t.kids.length = 0 then Nt.text t else 40 :: (Nt.text t ++ [41]) := by
    unfold Nt.inner Nt.paren
    cases t.kids <;> rfl
  obtain ⟨k0, hk0⟩ : ∃ k0, t.kind = k0 := ⟨_, rfl⟩
  obtain ⟨n0, hn0⟩ : ∃ n0, t.num = n0 := ⟨_, rfl⟩
  obtain ⟨m0, hm0⟩ : ∃ m0, t.kids.length = m0 := ⟨_, rfl⟩
  obtain ⟨s, hst⟩ : ∃ s, Nt.text t = s := ⟨_, rfl⟩
  unfold tv at h1 ⊢
  rw [hin]
  rw [hst] at h1 hlen ⊢
  rw [hk0, hn0, hm0] at h1 hb0
  rw [hk0, hn0, hm0]
  have H1 := Lib.hid h1; have HB0 := Lib.hid hb0
  clear h1 hb0 hin hk0 hn0 hm0 hst hty ht hr hs
  by_cases hz : m0 = 0
  · subst hz
    rw [if_pos rfl]
    go_enter Tryz.func23, Tryz.ntmps23
    go_wp2_with fail
    refine H1.out.mono ?_
    rintro e w1 ⟨rfl, hb1⟩
    have HB1 := Lib.hid (HB0.out.trans (hb1.mono HB0.out.size))
    clear hb1
    go_wp2_with fail
    go_ret
    exact ⟨rfl, HB1.out⟩
  · have hp : (m0 : Int) > 0 := by omega
    rw [if_neg hz]
    go_enter Tryz.func23, Tryz.ntmps23
    go_wp2_with fail
    refine H1.out.mono ?_
    rintro e w1 ⟨rfl, hb1⟩
    have HB1 := Lib.hid (HB0.out.trans (hb1.mono HB0.out.size))
    clear hb1
    go_wp2_with fail
    go_ret
    refine ⟨?_, HB1.out⟩
    exact congrArg (fun b => Ending.returned (Value.string b)) (ba_ext2 (a := { data := #[40] } ++ { data := s.toArray } ++ { data := #[41] }) (b := ⟨(40 :: (s ++ [41])).toArray⟩) (by simp))
theorem kid_cells {w : World} {t : T} {a : Option Addr} {cap : Nat} (h : TyAt (LT w.heap.size) w t a cap) {l : List T} (hl : t.kids = l) (k : Nat) (x : T) (hx : l[k]? = some x) :
    ∃ b o xa xc, a = some ⟨b, o, none⟩ ∧ TyAt (LT w.heap.size) w x xa xc ∧ ∀ w', Below w.heap.size w w' → w'.cell? ⟨b, o + k * 3, none⟩ = some (.int .i64 x.kind) ∧ w'.cell? ⟨b, o + k * 3 + 1, none⟩ = some (.int .i64 x.num) ∧ w'.cell? ⟨b, o + k * 3 + 2, none⟩ = some (.slice xa x.kids.length xc) := by
  subst hl
  obtain ⟨hk, hx'⟩ := List.getElem?_eq_some_iff.1 hx
  obtain ⟨b, o, xa, xc, e, hb, h1, h2, h3, h4⟩ := kid_of h (Below.refl _ _) hk
  rw [hx'] at h1 h2 h3 h4
  have up : ∀ w', Below w.heap.size w w' → ∀ j, w'.cell? ⟨b, j, none⟩ = w.cell? ⟨b, j, none⟩ := fun w' hb' j => hb'.cell (p := ⟨b, j, none⟩) hb
  exact ⟨b, o, xa, xc, e, h1, fun w' hb' => ⟨by rw [up w' hb']; exact h2, by rw [up w' hb']; exact h3, by rw [up w' hb']; exact h4⟩⟩
set_option maxRecDepth 100000 in
set_option maxHeartbeats 4000000 in
theorem rtext_any : ∀ (n : Nat) (t : T) (a : Option Addr) (cap : Nat) (w : World), Tp.size t ≤ n → Tp.size t ≤ 600 → Tp.right t = true → TyAt (LT w.heap.size) w t a cap →
    Calls Tryz.prog 8 #[tv t a cap] w fun e w' => e = .returned (.string ⟨(Nt.text t).toArray⟩) ∧ Below w.heap.size w w' := by
  intro n
  induction n with
  | zero => intro t a cap w h; have := Tp.size_pos t; omega
  | succ n ih =>
    intro t a cap w hn hs hr hty
    cases Nt.view t hr with
    | leaf k m _ =>
      rw [Nt.text_leaf]
      unfold tv
      simp only [Tp.T.kind, Tp.T.num, Tp.T.kids, List.length_nil]
      have hb0 : Below w.heap.size w (w.alloc (.cells #[.int .i64 k, .int .i64 m, .slice a 0 cap] 24)) := (Below.refl _ _).alloc (Nat.le_refl _) _
      rcases Nt.right_leaf hr with (⟨rfl, rfl⟩ | ⟨rfl, rfl⟩ | ⟨rfl, rfl⟩ | ⟨rfl, rfl⟩ | ⟨rfl, rfl⟩) | ⟨rfl, hm⟩
      iterate 5
        · go_enter Tryz.func8, Tryz.ntmps8
          go_wp2_with fail
          go_ret
          exact ⟨rfl, hb0⟩
      · have hnu := rnum_any m (by unfold Wd.inI64; omega) (w.alloc (.cells #[.int .i64 6, .int .i64 m, .slice a 0 cap] 24))
        have hln : (Wd.num m).length ≤ 22 := by
          have := Nt.leaf_len 6 m (by unfold Wd.inI64; omega)
          rw [show Nt.leafTx 6 m = 39 :: Wd.num m from rfl] at this
          simp at this; omega
        have HNU := Lib.hid hnu
        clear hnu
        go_enter Tryz.func8, Tryz.ntmps8
        go_wp2_with fail
        refine HNU.out.mono ?_
        rintro e w1 ⟨rfl, rfl⟩
        go_wp2_with fail
        go_ret
        refine ⟨?_, hb0⟩
        exact congrArg (fun b => Ending.returned (Value.string b)) (ba_ext2 (a := { data := #[39] } ++ { data := (Wd.num m).toArray }) (b := ⟨(Nt.leafTx 6 m).toArray⟩) (by simp [Nt.leafTx]))
    | list x hx =>
      simp only [Tp.size, Tp.sizes] at hn hs
      have hs' : Tp.size x ≤ 600 := by omega
      obtain ⟨b, o, xa, xc, rfl, htx, hkx⟩ := kid_cells hty rfl 0 x rfl
      have hix := fun w1 (hb : Below w.heap.size w w1) => rinner_of x xa xc w1 hx hs' (ty_later htx hb) (fun w2 h2 => ih x xa xc w2 (by omega) hs' hx h2)
      have hlx := (text_bound hx hs').2
      obtain ⟨sx, hsx⟩ : ∃ s, Nt.inner x = s := ⟨_, rfl⟩
      obtain ⟨k1, hk1⟩ : ∃ q, x.kind = q := ⟨_, rfl⟩
      obtain ⟨n1, hn1⟩ : ∃ q, x.num = q := ⟨_, rfl⟩
      obtain ⟨m1, hm1⟩ : ∃ q, x.kids.length = q := ⟨_, rfl⟩
      rw [hsx] at hix hlx
      unfold tv at hix ⊢
      simp only [hk1, hn1, hm1] at hix hkx
      have hcap : 1 ≤ cap := hty.2.2.1
      simp only [Tp.T.kind, Tp.T.num, Tp.T.kids, List.length_cons, List.length_nil, Nat.zero_add]
      have hb0 : Below w.heap.size w (w.alloc (.cells #[.int .i64 8, .int .i64 0, .slice (some ⟨b, o, none⟩) 1 cap] 24)) := (Below.refl _ _).alloc (Nat.le_refl _) _
      simp only [Nat.zero_mul, Nat.add_zero] at hkx
      obtain ⟨d0, d1, d2⟩ := hkx _ hb0
      have HIX := Lib.hid hix; have HB0 := Lib.hid hb0; have HSX := Lib.hid hsx
      clear hix hb0 hsx hkx htx hk1 hn1 hm1 hty ih
      go_enter Tryz.func8, Tryz.ntmps8
      go_wp2_with fail
      refine (HIX.out _ HB0.out).mono ?_
      rintro e w1 ⟨rfl, hb1⟩
      have HB1 := Lib.hid (HB0.out.trans (hb1.mono HB0.out.size))
      clear hb1 d0 d1 d2
      go_wp2_with fail
      go_ret
      refine ⟨?_, HB1.out⟩
      rw [Nt.text_one, HSX.out]
      exact congrArg (fun b => Ending.returned (Value.string b)) (ba_ext2 (a := { data := sx.toArray } ++ { data := #[32, 108, 105, 115, 116] }) (b := ⟨(sx ++ Nt.sList).toArray⟩) (by simp [Nt.sList]))
    | two k x y hk hx hy =>
      simp only [Tp.size, Tp.sizes] at hn hs
      have hs' : Tp.size x ≤ 600 := by omega
      have hs2 : Tp.size y ≤ 600 := by omega
      obtain ⟨b, o, xa, xc, rfl, htx, hkx⟩ := kid_cells hty rfl 0 x rfl
      obtain ⟨b2, o2, ya, yc, e2, hty2, hky⟩ := kid_cells hty rfl 1 y rfl
      injection e2 with e2
      injection e2 with e3 e4
      subst e3 e4
      have hix := fun w1 (hb : Below w.heap.size w w1) => rinner_of x xa xc w1 hx hs' (ty_later htx hb) (fun w2 h2 => ih x xa xc w2 (by omega) hs' hx h2)
      have hiy := fun w1 (hb : Below w.heap.size w w1) => rinner_of y ya yc w1 hy hs2 (ty_later hty2 hb) (fun w2 h2 => ih y ya yc w2 (by omega) hs2 hy h2)
      have hlx := (text_bound hx hs').2
      have hly := (text_bound hy hs2).2
      obtain ⟨sx, hsx⟩ : ∃ s, Nt.inner x = s := ⟨_, rfl⟩
      obtain ⟨sy, hsy⟩ : ∃ s, Nt.inner y = s := ⟨_, rfl⟩
      obtain ⟨k1, hk1⟩ : ∃ q, x.kind = q := ⟨_, rfl⟩
      obtain ⟨n1, hn1⟩ : ∃ q, x.num = q := ⟨_, rfl⟩
      obtain ⟨m1, hm1⟩ : ∃ q, x.kids.length = q := ⟨_, rfl⟩
      obtain ⟨k2, hk2⟩ : ∃ q, y.kind = q := ⟨_, rfl⟩
      obtain ⟨n2, hn2⟩ : ∃ q, y.num = q := ⟨_, rfl⟩
      obtain ⟨m2, hm2⟩ : ∃ q, y.kids.length = q := ⟨_, rfl⟩
      rw [hsx] at hix hlx
      rw [hsy] at hiy hly
      unfold tv at hix hiy ⊢
      simp only [hk1, hn1, hm1] at hix hkx
      simp only [hk2, hn2, hm2] at hiy hky
      have hcap : 2 ≤ cap := hty.2.2.1
      simp only [Tp.T.kind, Tp.T.num, Tp.T.kids, List.length_cons, List.length_nil, Nat.zero_add, Nat.reduceAdd]
      simp only [Nat.zero_mul, Nat.add_zero] at hkx
      simp only [Nat.one_mul] at hky
      have hb0 : Below w.heap.size w (w.alloc (.cells #[.int .i64 k, .int .i64 0, .slice (some ⟨b, o, none⟩) 2 cap] 24)) := (Below.refl _ _).alloc (Nat.le_refl _) _
      have HIX := Lib.hid hix; have HIY := Lib.hid hiy; have HB0 := Lib.hid hb0; have HSX := Lib.hid hsx.symm; have HSY := Lib.hid hsy.symm; have HKX := Lib.hid hkx; have HKY := Lib.hid hky
      clear hix hiy hb0 hsx hsy hkx hky htx hty2 hk1 hn1 hm1 hk2 hn2 hm2 hty ih hr
      rcases hk with rfl | rfl
      · go_enter Tryz.func8, Tryz.ntmps8
        go_upto_region 15 with fail
        refine wp_region_seq [(0, false), (0, false), (0, false), (0, false), (2, false), (2, false), (2, false), (2, false), (0, true), (0, false), (0, true), (0, false), (0, false)] (by kernel_rfl) (by kernel_rfl) (by kernel_rfl) (fun _ _ _ d _ h => by cases d <;> exact h) ?_
        have hbd := HB0.out.drew
        generalize hwd : (w.alloc (.cells #[.int .i64 7, .int .i64 0, .slice (some ⟨b, o, none⟩) 2 cap] 24)).drew = wd at hbd ⊢
        have c0 : wd.cell? ⟨w.heap.size, 0, none⟩ = some (.int .i64 7) := by rw [← hwd]; exact cell_box (World.alloc_heap_new w _) rfl rfl
        have c2 : wd.cell? ⟨w.heap.size, 2, none⟩ = some (.slice (some ⟨b, o, none⟩) 2 cap) := by rw [← hwd]; exact cell_box (World.alloc_heap_new w _) rfl rfl
        obtain ⟨d0, d1, d2⟩ := HKX.out wd hbd
        obtain ⟨e0, e1, e2⟩ := HKY.out wd hbd
        have HBD := Lib.hid hbd
        clear hwd hbd
        repeat
          (first | with_reducible refine sp0 (fun K hK => ?_) | with_reducible refine sp1 (fun K hK => ?_) | with_reducible refine sp2 (fun K hK => ?_) | with_reducible refine sp3 (fun K hK => ?_) | with_reducible refine sp4 (fun K hK => ?_)
           go_simp
           first
           | (with_reducible refine hK _ _ ?_; clear hK K)
           | (with_reducible apply Exists.intro
              refine ⟨fun x hx => ?_, hK _ _ ?_⟩
              first
                | (with_reducible exact rfl)
                | (with_reducible exact if_neg (by omega))
                | (have y0 := keepc hx c0; have y1 := keepc hx c2; have y2 := keepc hx d0; have y3 := keepc hx d1; have y4 := keepc hx d2; have y5 := keepc hx e0; have y6 := keepc hx e1; have y7 := keepc hx e2; go_simp; done)
                | (have y0 := keepc hx c0; have y1 := keepc hx c2; have y2 := keepc hx d0; have y3 := keepc hx d1; have y4 := keepc hx d2; have y5 := keepc hx e0; have y6 := keepc hx e1; have y7 := keepc hx e2; go_simp; with_reducible exact rfl)
              clear hK K))
        first | with_reducible refine sc0 (fun K hK => ?_)
        go_simp
        refine (HIX.out wd HBD.out).mono ?_
        rintro e w1 ⟨rfl, hb1⟩
        refine ⟨hb1, hK _ _ ?_⟩
        clear hK K c0 c2 d0 d1 d2 e0 e1 e2
        have HB1 := Lib.hid (HBD.out.trans (hb1.mono HBD.out.size))
        clear hb1
        repeat
          (first | with_reducible refine sp0 (fun K hK => ?_) | with_reducible refine sp1 (fun K hK => ?_) | with_reducible refine sp2 (fun K hK => ?_) | with_reducible refine sp3 (fun K hK => ?_) | with_reducible refine sp4 (fun K hK => ?_)
           go_simp
           first
           | (with_reducible refine hK _ _ ?_; clear hK K)
           | (with_reducible apply Exists.intro
              refine ⟨fun x hx => ?_, hK _ _ ?_⟩
              first
                | (with_reducible exact rfl)
                | (with_reducible exact if_neg (by omega))
                | (go_simp; done)
                | (go_simp; with_reducible exact rfl)
              clear hK K))
        first | with_reducible refine sc0 (fun K hK => ?_)
        go_simp
        refine (HIY.out w1 HB1.out).mono ?_
        rintro e w2 ⟨rfl, hb2⟩
        refine ⟨hb2, hK _ _ ?_⟩
        clear hK K
        have HB2 := Lib.hid (HB1.out.trans (hb2.mono HB1.out.size))
        clear hb2
        repeat
          (first | with_reducible refine sp0 (fun K hK => ?_) | with_reducible refine sp1 (fun K hK => ?_) | with_reducible refine sp2 (fun K hK => ?_) | with_reducible refine sp3 (fun K hK => ?_) | with_reducible refine sp4 (fun K hK => ?_)
           go_simp
           first
           | (with_reducible refine hK _ _ ?_; clear hK K)
           | (with_reducible apply Exists.intro
              refine ⟨fun x hx => ?_, hK _ _ ?_⟩
              first
                | (with_reducible exact rfl)
                | (with_reducible exact if_neg (by omega))
                | (go_simp; done)
                | (go_simp; with_reducible exact rfl)
              clear hK K))
        with_reducible refine seq_nil ?_
        go_wp2_with fail
        go_ret
        refine ⟨?_, HB2.out⟩
        rw [Nt.text_two, ← HSX.out, ← HSY.out]
        exact congrArg (fun b => Ending.returned (Value.string b)) (ba_ext2 (a := { data := sx.toArray } ++ { data := #[32, 42, 32] } ++ { data := sy.toArray }) (b := ⟨(sx ++ (Nt.sep 7 ++ sy)).toArray⟩) (by simp [Nt.sep]))
      · go_enter Tryz.func8, Tryz.ntmps8
        go_upto_region 18 with fail
        refine wp_region_seq [(0, false), (0, false), (0, false), (0, false), (2, false), (2, false), (2, false), (2, false), (0, true), (0, false), (0, true), (0, false), (0, false)] (by kernel_rfl) (by kernel_rfl) (by kernel_rfl) (fun _ _ _ d _ h => by cases d <;> exact h) ?_
        have hbd := HB0.out.drew
        generalize hwd : (w.alloc (.cells #[.int .i64 9, .int .i64 0, .slice (some ⟨b, o, none⟩) 2 cap] 24)).drew = wd at hbd ⊢
        have c0 : wd.cell? ⟨w.heap.size, 0, none⟩ = some (.int .i64 9) := by rw [← hwd]; exact cell_box (World.alloc_heap_new w _) rfl rfl
        have c2 : wd.cell? ⟨w.heap.size, 2, none⟩ = some (.slice (some ⟨b, o, none⟩) 2 cap) := by rw [← hwd]; exact cell_box (World.alloc_heap_new w _) rfl rfl
        obtain ⟨d0, d1, d2⟩ := HKX.out wd hbd
        obtain ⟨e0, e1, e2⟩ := HKY.out wd hbd
        have HBD := Lib.hid hbd
        clear hwd hbd
        repeat
          (first | with_reducible refine sp0 (fun K hK => ?_) | with_reducible refine sp1 (fun K hK => ?_) | with_reducible refine sp2 (fun K hK => ?_) | with_reducible refine sp3 (fun K hK => ?_) | with_reducible refine sp4 (fun K hK => ?_)
           go_simp
           first
           | (with_reducible refine hK _ _ ?_; clear hK K)
           | (with_reducible apply Exists.intro
              refine ⟨fun x hx => ?_, hK _ _ ?_⟩
              first
                | (with_reducible exact rfl)
                | (with_reducible exact if_neg (by omega))
                | (have y0 := keepc hx c0; have y1 := keepc hx c2; have y2 := keepc hx d0; have y3 := keepc hx d1; have y4 := keepc hx d2; have y5 := keepc hx e0; have y6 := keepc hx e1; have y7 := keepc hx e2; go_simp; done)
                | (have y0 := keepc hx c0; have y1 := keepc hx c2; have y2 := keepc hx d0; have y3 := keepc hx d1; have y4 := keepc hx d2; have y5 := keepc hx e0; have y6 := keepc hx e1; have y7 := keepc hx e2; go_simp; with_reducible exact rfl)
              clear hK K))
        first | with_reducible refine sc0 (fun K hK => ?_)
        go_simp
        refine (HIX.out wd HBD.out).mono ?_
        rintro e w1 ⟨rfl, hb1⟩
        refine ⟨hb1, hK _ _ ?_⟩
        clear hK K c0 c2 d0 d1 d2 e0 e1 e2
        have HB1 := Lib.hid (HBD.out.trans (hb1.mono HBD.out.size))
        clear hb1
        repeat
          (first | with_reducible refine sp0 (fun K hK => ?_) | with_reducible refine sp1 (fun K hK => ?_) | with_reducible refine sp2 (fun K hK => ?_) | with_reducible refine sp3 (fun K hK => ?_) | with_reducible refine sp4 (fun K hK => ?_)
           go_simp
           first
           | (with_reducible refine hK _ _ ?_; clear hK K)
           | (with_reducible apply Exists.intro
              refine ⟨fun x hx => ?_, hK _ _ ?_⟩
              first
                | (with_reducible exact rfl)
                | (with_reducible exact if_neg (by omega))
                | (go_simp; done)
                | (go_simp; with_reducible exact rfl)
              clear hK K))
        first | with_reducible refine sc0 (fun K hK => ?_)
        go_simp
        refine (HIY.out w1 HB1.out).mono ?_
        rintro e w2 ⟨rfl, hb2⟩
        refine ⟨hb2, hK _ _ ?_⟩
        clear hK K
        have HB2 := Lib.hid (HB1.out.trans (hb2.mono HB1.out.size))
        clear hb2
        repeat
          (first | with_reducible refine sp0 (fun K hK => ?_) | with_reducible refine sp1 (fun K hK => ?_) | with_reducible refine sp2 (fun K hK => ?_) | with_reducible refine sp3 (fun K hK => ?_) | with_reducible refine sp4 (fun K hK => ?_)
           go_simp
           first
           | (with_reducible refine hK _ _ ?_; clear hK K)
           | (with_reducible apply Exists.intro
              refine ⟨fun x hx => ?_, hK _ _ ?_⟩
              first
                | (with_reducible exact rfl)
                | (with_reducible exact if_neg (by omega))
                | (go_simp; done)
                | (go_simp; with_reducible exact rfl)
              clear hK K))
        with_reducible refine seq_nil ?_
        go_wp2_with fail
        go_ret
        refine ⟨?_, HB2.out⟩
        rw [Nt.text_two, ← HSX.out, ← HSY.out]
        exact congrArg (fun b => Ending.returned (Value.string b)) (ba_ext2 (a := { data := sx.toArray } ++ { data := #[32, 45, 62, 32] } ++ { data := sy.toArray }) (b := ⟨(sx ++ (Nt.sep 9 ++ sy)).toArray⟩) (by simp [Nt.sep]))
end Go.Proofs.YtideicoifinnoaaGreatDoor
