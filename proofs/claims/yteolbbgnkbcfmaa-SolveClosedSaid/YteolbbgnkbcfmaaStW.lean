/- The laws' Made: a type is made in a store, its variables by a map. Plain facts. What lies within a node that was made: every variable of its type, once. -/
import Derived.Test.YteolbbgnkbcfmaaStQ
import Derived.Test.YteolbbgnkbcfmaaStS
namespace Go.Proofs.Yteolbbgnkbcfmaa
open Go Go.RowKit
open Tp (T)
open Sg (Of Rt Den Dens Alk Mkd trav travs rootOf kidsOf)
mutual
/-- The node p is the type, its variables by the map; all own roots. -/
def Im (H : List SNd) (M : IMap) : T → Nat → Prop
  | .mk k n l, p => ∃ d, H[p]? = some d ∧ d.up = p ∧ d.c.kind = k ∧ (k = 6 → M n = some p) ∧ Ims H M l (kidL d.c.kind d.c.a d.c.b)
def Ims (H : List SNd) (M : IMap) : List T → List Int → Prop
  | [], xs => xs = []
  | t :: ts, xs => ∃ (q : Nat) (rest : List Int), xs = (q : Int) :: rest ∧ Im H M t q ∧ Ims H M ts rest
end
mutual
theorem Im.mono {H N : List SNd} {M M' : IMap} (hM : ∀ k p, M k = some p → M' k = some p) : ∀ {t : T} {p : Nat}, Im H M t p → Im (H ++ N) M' t p
  | .mk k n l, p, h => by
    obtain ⟨d, h1, h2, h3, h4, h5⟩ := h
    exact ⟨d, by rw [List.getElem?_append_left (List.getElem?_eq_some_iff.1 h1).1]; exact h1, h2, h3, fun e => hM _ _ (h4 e), Ims.mono hM h5⟩
theorem Ims.mono {H N : List SNd} {M M' : IMap} (hM : ∀ k p, M k = some p → M' k = some p) : ∀ {l : List T} {xs : List Int}, Ims H M l xs → Ims (H ++ N) M' l xs
  | [], xs, h => h
  | t :: ts, xs, h => by
    obtain ⟨q, rest, h1, h2, h3⟩ := h
    exact ⟨q, rest, h1, Im.mono hM h2, Ims.mono hM h3⟩
end
mutual
/-- The type that the node stands for. -/
def ren (M : IMap) : T → T
  | .mk k n l => .mk k (if k = 6 then (((M n).getD 0 : Nat) : Int) else 0) (rens M l)
def rens (M : IMap) : List T → List T
  | [] => []
  | t :: ts => ren M t :: rens M ts
end
mutual
theorem Im.den {H : List SNd} {M : IMap} : ∀ {t : T} {p : Nat}, Im H M t p → Den H (ren M t) p
  | .mk k n l, p, h => by
    obtain ⟨d, h1, h2, h3, h4, h5⟩ := h
    refine ⟨d, d, h1, by rw [h2]; exact h1, rfl, h3, ?_, Ims.dens h5⟩
    by_cases e : k = 6
    · rw [if_pos e, if_pos e, h4 e, h2]; rfl
    · rw [if_neg e, if_neg e]
theorem Ims.dens {H : List SNd} {M : IMap} : ∀ {l : List T} {xs : List Int}, Ims H M l xs → Dens H (rens M l) xs
  | [], xs, h => h
  | t :: ts, xs, h => by
    obtain ⟨q, rest, h1, h2, h3⟩ := h
    exact ⟨q, rest, h1, Im.den h2, Ims.dens h3⟩
end
mutual
theorem ren_size (M : IMap) : ∀ t : T, Tp.size (ren M t) = Tp.size t
  | .mk k n l => by simp only [ren, Tp.size, rens_size M l]
theorem rens_size (M : IMap) : ∀ l : List T, Tp.sizes (rens M l) = Tp.sizes l
  | [] => rfl
  | t :: ts => by simp only [rens, Tp.sizes, ren_size M t, rens_size M ts]
end
/-- How many variables. -/
def vcnt (H : List SNd) : Nat := (H.filter fun d => decide (d.c.kind = 6)).length
theorem vcnt_snoc (H : List SNd) (d : SNd) : vcnt (H ++ [d]) = vcnt H + if d.c.kind = 6 then 1 else 0 := by
  unfold vcnt
  rw [List.filter_append, List.length_append]
  by_cases h : d.c.kind = 6 <;> simp [h]
mutual
/-- The variable occurs in the type. -/
def occ : T → Int → Prop
  | .mk k n l, i => (k = 6 ∧ n = i) ∨ occs l i
def occs : List T → Int → Prop
  | [], _ => False
  | t :: ts, i => occ t i ∨ occs ts i
end
/-- What making a type leaves: more nodes, more entries. -/
structure Grow (lev : Int) (H : List SNd) (M : IMap) (H' : List SNd) (M' : IMap) : Prop where
  nodes : ∃ N, H' = H ++ N ∧ ∀ d ∈ N, d.c.met = 0 ∧ I64 d.c.kind
  own : ∀ i d, H.length ≤ i → H'[i]? = some d → d.up = i
  ext : ∀ k p, M k = some p → M' k = some p
  new : ∀ k p, M' k = some p → M k = some p ∨ (H.length ≤ p ∧ ∃ d, H'[p]? = some d ∧ d.c.kind = 6 ∧ d.c.level = lev)
  one : ∀ k k' p, M' k = some p → M' k' = some p → H.length ≤ p → (∀ j q, M j = some q → q < H.length) → k = k'
  back : ∀ i d, H.length ≤ i → H'[i]? = some d → d.c.kind = 6 → ∃ k, M' k = some i
theorem Grow.len {lev : Int} {H H' : List SNd} {M M' : IMap} (h : Grow lev H M H' M') : H.length ≤ H'.length := by
  obtain ⟨N, rfl, _⟩ := h.nodes; rw [List.length_append]; omega
theorem Grow.get {lev : Int} {H H' : List SNd} {M M' : IMap} (h : Grow lev H M H' M') {i : Nat} {d : SNd} (hd : H[i]? = some d) : H'[i]? = some d := by
  obtain ⟨N, rfl, _⟩ := h.nodes; rw [List.getElem?_append_left (List.getElem?_eq_some_iff.1 hd).1]; exact hd
theorem Grow.im {lev : Int} {H H' : List SNd} {M M' : IMap} (h : Grow lev H M H' M') {t : T} {p : Nat} (hp : Im H M t p) : Im H' M' t p := by
  obtain ⟨N, rfl, _⟩ := h.nodes; exact hp.mono h.ext
theorem Grow.refl (lev : Int) (H : List SNd) (M : IMap) : Grow lev H M H M :=
  ⟨⟨[], by simp, fun _ h => by cases h⟩, fun i d h1 h2 => by have := (List.getElem?_eq_some_iff.1 h2).1; omega, fun _ _ h => h, fun _ _ h => .inl h,
    fun k k' p h1 h2 h3 h4 => by have := h4 _ _ h1; omega, fun i d h1 h2 => by have := (List.getElem?_eq_some_iff.1 h2).1; omega⟩
/-- Every entry is a variable. -/
def MapOk (H : List SNd) (M : IMap) : Prop := ∀ k p, M k = some p → ∃ d, H[p]? = some d ∧ d.up = p ∧ d.c.kind = 6
theorem MapOk.lt {H : List SNd} {M : IMap} (h : MapOk H M) {k : Int} {p : Nat} (hk : M k = some p) : p < H.length := by
  obtain ⟨d, h1, _⟩ := h k p hk; exact (List.getElem?_eq_some_iff.1 h1).1
theorem Grow.ok {lev : Int} {H H' : List SNd} {M M' : IMap} (h : Grow lev H M H' M') (hM : MapOk H M) : MapOk H' M' := fun k p hp => by
  rcases h.new k p hp with h1 | ⟨h1, d, h2, h3, _⟩
  · obtain ⟨d, q1, q2, q3⟩ := hM k p h1; exact ⟨d, h.get q1, q2, q3⟩
  · exact ⟨d, h2, h.own p d h1 h2, h3⟩
theorem Grow.trans {lev : Int} {H H' H'' : List SNd} {M M' M'' : IMap} (h : Grow lev H M H' M') (k : Grow lev H' M' H'' M'') (hM : MapOk H M) : Grow lev H M H'' M'' := by
  have hl := h.len
  refine ⟨?_, fun i d h1 h2 => ?_, fun j p h1 => k.ext j p (h.ext j p h1), fun j p h1 => ?_, fun j j' p h1 h2 h3 h4 => ?_, fun i d h1 h2 h3 => ?_⟩
  · obtain ⟨N, e1, hN⟩ := h.nodes
    obtain ⟨N', e2, hN'⟩ := k.nodes
    refine ⟨N ++ N', by rw [e2, e1, List.append_assoc], fun d hd => ?_⟩
    rcases List.mem_append.1 hd with hd | hd
    · exact hN d hd
    · exact hN' d hd
  · by_cases hi : H'.length ≤ i
    · exact k.own i d hi h2
    · obtain ⟨e, he⟩ : ∃ e, H'[i]? = some e := ⟨_, List.getElem?_eq_getElem (by omega)⟩
      have := k.get he; rw [h2] at this; injection this with this; subst this
      exact h.own i d h1 he
  · rcases k.new j p h1 with h2 | ⟨h2, h3⟩
    · rcases h.new j p h2 with h3 | ⟨h3, d, h4, h5⟩
      · exact .inl h3
      · exact .inr ⟨h3, d, k.get h4, h5⟩
    · exact .inr ⟨by omega, h3⟩
  · have hM' := h.ok hM
    by_cases hp : H'.length ≤ p
    · exact k.one j j' p h1 h2 hp (fun i q hq => hM'.lt hq)
    · have e1 : M' j = some p := by
        rcases k.new j p h1 with h5 | ⟨h5, _⟩
        · exact h5
        · omega
      have e2 : M' j' = some p := by
        rcases k.new j' p h2 with h5 | ⟨h5, _⟩
        · exact h5
        · omega
      exact h.one j j' p e1 e2 h3 h4
  · by_cases hi : H'.length ≤ i
    · exact k.back i d hi h2 h3
    · obtain ⟨e, he⟩ : ∃ e, H'[i]? = some e := ⟨_, List.getElem?_eq_getElem (by omega)⟩
      have := k.get he; rw [h2] at this; injection this with this; subst this
      obtain ⟨j, hj⟩ := h.back i d h1 he h3
      exact ⟨j, k.ext j i hj⟩
/-- A node more that is no variable. -/
theorem Grow.node (lev : Int) (H : List SNd) (M : IMap) (c : Sg.Cr) (hk : c.kind ≠ 6) (hm : c.met = 0) (hi : I64 c.kind) : Grow lev H M (H ++ [⟨c, H.length⟩]) M := by
  have hget : ∀ i d, H.length ≤ i → (H ++ [(⟨c, H.length⟩ : SNd)])[i]? = some d → i = H.length ∧ d = ⟨c, H.length⟩ := fun i d h1 h2 => by
    have hl := (List.getElem?_eq_some_iff.1 h2).1
    rw [List.length_append, List.length_singleton] at hl
    obtain rfl : i = H.length := by omega
    rw [List.getElem?_append_right (Nat.le_refl _), Nat.sub_self] at h2
    injection h2 with h2; exact ⟨rfl, h2.symm⟩
  refine ⟨⟨_, rfl, fun d hd => by obtain rfl := List.mem_singleton.1 hd; exact ⟨hm, hi⟩⟩, fun i d h1 h2 => ?_, fun _ _ h => h, fun _ _ h => .inl h, fun k k' p h1 h2 h3 h4 => by have := h4 _ _ h1; omega, fun i d h1 h2 h3 => ?_⟩
  · obtain ⟨rfl, rfl⟩ := hget i d h1 h2; rfl
  · obtain ⟨rfl, rfl⟩ := hget i d h1 h2; exact absurd h3 hk
/-- A variable more. -/
theorem Grow.var (lev : Int) (H : List SNd) (M : IMap) (n : Int) (hn : M n = none) : Grow lev H M (H ++ [⟨⟨6, lev, 0, 0, 0⟩, H.length⟩]) (imPut M n H.length) := by
  have hat : (H ++ [(⟨⟨6, lev, 0, 0, 0⟩, H.length⟩ : SNd)])[H.length]? = some ⟨⟨6, lev, 0, 0, 0⟩, H.length⟩ := by rw [List.getElem?_append_right (Nat.le_refl _), Nat.sub_self]; rfl
  have hget : ∀ i d, H.length ≤ i → (H ++ [(⟨⟨6, lev, 0, 0, 0⟩, H.length⟩ : SNd)])[i]? = some d → i = H.length ∧ d = ⟨⟨6, lev, 0, 0, 0⟩, H.length⟩ := fun i d h1 h2 => by
    have hl := (List.getElem?_eq_some_iff.1 h2).1
    rw [List.length_append, List.length_singleton] at hl
    obtain rfl : i = H.length := by omega
    rw [hat] at h2
    injection h2 with h2; exact ⟨rfl, h2.symm⟩
  refine ⟨⟨_, rfl, fun d hd => by obtain rfl := List.mem_singleton.1 hd; exact ⟨rfl, (show I64 6 from i64_nat (by decide) (by decide))⟩⟩, fun i d h1 h2 => ?_, fun k p h => ?_, fun k p h => ?_, fun k k' p h1 h2 h3 h4 => ?_, fun i d h1 h2 h3 => ?_⟩
  · obtain ⟨rfl, rfl⟩ := hget i d h1 h2; rfl
  · unfold imPut
    rw [if_neg (fun e => by rw [e, hn] at h; cases h)]; exact h
  · unfold imPut at h
    split at h
    · injection h with h; subst h; exact .inr ⟨Nat.le_refl _, _, hat, rfl, rfl⟩
    · exact .inl h
  · unfold imPut at h1 h2
    split at h1
    · rename_i e1
      split at h2
      · rename_i e2; rw [e1, e2]
      · have := h4 _ _ h2; omega
    · have := h4 _ _ h1; omega
  · obtain ⟨rfl, rfl⟩ := hget i d h1 h2
    exact ⟨n, by unfold imPut; rw [if_pos rfl]⟩
/-- The leaves are where they belong. -/
def LvOk (H : List SNd) : Prop := ∀ i : Nat, i < 5 → ∃ d, H[i]? = some d ∧ d.up = i ∧ d.c.kind = (i : Int) + 1
theorem Grow.lv {lev : Int} {H H' : List SNd} {M M' : IMap} (h : Grow lev H M H' M') (hl : LvOk H) : LvOk H' := fun i hi => by
  obtain ⟨d, h1, h2⟩ := hl i hi; exact ⟨d, h.get h1, h2⟩
end Go.Proofs.Yteolbbgnkbcfmaa
namespace Go.Proofs.Yteolbbgnkbcfmaa
open Go Go.RowKit
open Tp (T)
open Sg (Of Rt Den Dens Alk Mkd trav travs rootOf kidsOf)
theorem Im.root {H : List SNd} {M : IMap} {t : T} {p : Nat} (h : Im H M t p) : rootOf H p = p := by
  cases t with
  | mk k n l => obtain ⟨d, h1, h2, _⟩ := h; unfold rootOf; rw [h1]; exact h2
theorem Im.kids {H : List SNd} {M : IMap} {t : T} {p : Nat} (h : Im H M t p) : Ims H M t.kids (kidsOf H p) := by
  cases t with
  | mk k n l => obtain ⟨d, h1, h2, h3, h4, h5⟩ := h; unfold kidsOf; rw [h1]; exact h5
theorem ren_kids (M : IMap) (t : T) : (ren M t).kids = rens M t.kids := by cases t; rfl
mutual
theorem trav_im {H : List SNd} {M : IMap} : ∀ {t : T} {p : Nat} {Y : List Nat} {i : Nat}, Im H M t p → i ∈ trav H (ren M t) p Y → i ∈ Y ∨ ∃ u, Im H M u i ∧ Tp.size u ≤ Tp.size t
  | .mk k n l, p, Y, i, h, hi => by
    have hr := h.root
    by_cases hy : rootOf H p ∈ Y
    · rw [Sg.trav_in hy] at hi; exact .inl hi
    · rw [Sg.trav_out hy, hr, ren_kids] at hi
      rcases List.mem_append.1 hi with hi | hi
      · rcases travs_im h.kids hi with h1 | ⟨u, h1, h2⟩
        · exact .inl h1
        · exact .inr ⟨u, h1, by simp only [Tp.T.kids] at h2; simp only [Tp.size]; omega⟩
      · rw [List.mem_singleton.1 hi]; exact .inr ⟨_, h, Nat.le_refl _⟩
theorem travs_im {H : List SNd} {M : IMap} : ∀ {l : List T} {xs : List Int} {Y : List Nat} {i : Nat}, Ims H M l xs → i ∈ travs H (rens M l) xs Y → i ∈ Y ∨ ∃ u, Im H M u i ∧ Tp.size u ≤ Tp.sizes l
  | [], xs, Y, i, h, hi => by simp only [rens, travs] at hi; exact .inl hi
  | t :: ts, xs, Y, i, h, hi => by
    obtain ⟨q, rest, rfl, h2, h3⟩ := h
    simp only [rens, travs, Int.toNat_natCast] at hi
    rcases travs_im h3 hi with h4 | ⟨u, h4, h5⟩
    · rcases trav_im h2 h4 with h5 | ⟨u, h5, h6⟩
      · exact .inl h5
      · exact .inr ⟨u, h5, by simp only [Tp.sizes]; omega⟩
    · exact .inr ⟨u, h4, by simp only [Tp.sizes]; omega⟩
end
theorem Im.size_det {H : List SNd} {M : IMap} {t u : T} {p : Nat} (h : Im H M t p) (k : Im H M u p) : Tp.size t = Tp.size u := by
  have e := Den.det h.den k.den rfl
  rw [← ren_size M t, e, ren_size M u]
mutual
theorem trav_nodup {H : List SNd} {M : IMap} : ∀ {t : T} {p : Nat} {Y : List Nat}, Im H M t p → Y.Nodup → (trav H (ren M t) p Y).Nodup
  | .mk k n l, p, Y, h, hY => by
    have hr := h.root
    by_cases hy : rootOf H p ∈ Y
    · rw [Sg.trav_in hy]; exact hY
    · rw [Sg.trav_out hy, hr, ren_kids]
      rw [hr] at hy
      refine List.nodup_append.2 ⟨travs_nodup h.kids hY, by simp, fun a ha b hb e => ?_⟩
      rw [List.mem_singleton] at hb
      rw [e, hb] at ha
      rcases travs_im h.kids ha with h1 | ⟨u, h1, h2⟩
      · exact hy h1
      · have := Im.size_det h h1
        simp only [Tp.T.kids] at h2
        simp only [Tp.size] at this
        omega
theorem travs_nodup {H : List SNd} {M : IMap} : ∀ {l : List T} {xs : List Int} {Y : List Nat}, Ims H M l xs → Y.Nodup → (travs H (rens M l) xs Y).Nodup
  | [], xs, Y, h, hY => by simp only [rens, travs]; exact hY
  | t :: ts, xs, Y, h, hY => by
    obtain ⟨q, rest, rfl, h2, h3⟩ := h
    simp only [rens, travs, Int.toNat_natCast]
    exact travs_nodup h3 (trav_nodup h2 hY)
end
/-- With a node lies all that is within it. -/
def Clo (H : List SNd) (Y : List Nat) : Prop := ∀ i ∈ Y, ∀ x ∈ kidsOf H i, rootOf H x.toNat ∈ Y
theorem Ims.len {H : List SNd} {M : IMap} : ∀ {l : List T} {xs : List Int}, Ims H M l xs → l.length = xs.length
  | [], xs, h => by rw [show xs = [] from h]; rfl
  | t :: ts, xs, h => by obtain ⟨q, rest, rfl, _, h3⟩ := h; simp [Ims.len h3]
theorem rens_len (M : IMap) : ∀ l : List T, (rens M l).length = l.length
  | [] => rfl
  | t :: ts => by simp [rens, rens_len M ts]
mutual
theorem trav_clo {H : List SNd} {M : IMap} : ∀ {t : T} {p : Nat} {Y : List Nat}, Im H M t p → Clo H Y → Clo H (trav H (ren M t) p Y)
  | .mk k n l, p, Y, h, hY => by
    have hr := h.root
    by_cases hy : rootOf H p ∈ Y
    · rw [Sg.trav_in hy]; exact hY
    · rw [Sg.trav_out hy, hr, ren_kids]
      intro i hi x hx
      rcases List.mem_append.1 hi with hi | hi
      · exact List.mem_append_left _ (travs_clo h.kids hY i hi x hx)
      · rw [List.mem_singleton.1 hi] at hx
        exact List.mem_append_left _ (travs_mem _ _ _ (by rw [rens_len]; exact h.kids.len) x hx)
theorem travs_clo {H : List SNd} {M : IMap} : ∀ {l : List T} {xs : List Int} {Y : List Nat}, Ims H M l xs → Clo H Y → Clo H (travs H (rens M l) xs Y)
  | [], xs, Y, h, hY => by simp only [rens, travs]; exact hY
  | t :: ts, xs, Y, h, hY => by
    obtain ⟨q, rest, rfl, h2, h3⟩ := h
    simp only [rens, travs, Int.toNat_natCast]
    exact travs_clo h3 (trav_clo h2 hY)
end
mutual
theorem clo_occ {H : List SNd} {M : IMap} {Z : List Nat} (hZ : Clo H Z) {i : Int} {q : Nat} (hM : M i = some q) : ∀ {t : T} {p : Nat}, Im H M t p → p ∈ Z → occ t i → q ∈ Z
  | .mk k n l, p, h, hp, ho => by
    rcases ho with ⟨h1, h2⟩ | ho
    · obtain ⟨d, _, _, _, h4, _⟩ := h
      have := h4 h1
      rw [h2, hM] at this
      injection this with this
      rw [this]; exact hp
    · exact clo_occs hZ hM h.kids (fun x hx => hZ p hp x hx) ho
theorem clo_occs {H : List SNd} {M : IMap} {Z : List Nat} (hZ : Clo H Z) {i : Int} {q : Nat} (hM : M i = some q) : ∀ {l : List T} {xs : List Int}, Ims H M l xs → (∀ x ∈ xs, rootOf H x.toNat ∈ Z) → occs l i → q ∈ Z
  | [], xs, _, _, ho => ho.elim
  | t :: ts, xs, h, hx, ho => by
    obtain ⟨p, rest, rfl, h2, h3⟩ := h
    rcases ho with ho | ho
    · have h4 := hx (p : Int) (by simp)
      rw [Int.toNat_natCast, h2.root] at h4
      exact clo_occ hZ hM h2 h4 ho
    · exact clo_occs hZ hM h3 (fun x h => hx x (List.mem_cons_of_mem _ h)) ho
end
/-- The variables within a node that was made are the map's. -/
theorem vars_of_im {H : List SNd} {M : IMap} {t : T} {p : Nat} (h : Im H M t p) (hok : MapOk H M) (hocc : ∀ k q, M k = some q → occ t k) (i : Nat) : i ∈ varsOf H (trav H (ren M t) p []) ↔ ∃ k, M k = some i := by
  unfold varsOf
  rw [List.mem_filter]
  constructor
  · rintro ⟨h1, h2⟩
    rcases trav_im h h1 with h3 | ⟨u, h3, _⟩
    · cases h3
    · cases u with
      | mk k n l =>
        obtain ⟨d, q1, q2, q3, q4, _⟩ := h3
        unfold isV at h2
        rw [q1] at h2
        exact ⟨n, q4 (by rw [← q3]; exact of_decide_eq_true h2)⟩
  · rintro ⟨k, hk⟩
    refine ⟨clo_occ (trav_clo h (fun i hi => by cases hi)) hk h ?_ (hocc k i hk), ?_⟩
    · have := Sg.trav_mem (H := H) (ren M t) p []; rw [h.root] at this; exact this
    · obtain ⟨d, q1, q2, q3⟩ := hok k i hk
      unfold isV; rw [q1]; exact decide_eq_true q3
theorem idx_cnt (H : List SNd) : ∀ n, n ≤ H.length → ((List.range n).filter (isV H)).length = vcnt (H.take n)
  | 0, _ => rfl
  | n + 1, h => by
    rw [List.range_succ, List.filter_append, List.length_append, idx_cnt H n (by omega), List.take_succ_eq_append_getElem (by omega), vcnt_snoc]
    congr 1
    have e : isV H n = decide (H[n].c.kind = 6) := by unfold isV; rw [List.getElem?_eq_getElem (by omega)]
    by_cases hk : H[n].c.kind = 6
    · rw [if_pos hk]; simp [e, hk]
    · rw [if_neg hk]; simp [e, hk]
/-- How many variables lie within a node that was made with a new map. -/
theorem vars_count {lev : Int} {H0 H : List SNd} {M : IMap} (hg : Grow lev H0 (fun _ => none) H M) {t : T} {p : Nat} (h : Im H M t p) (hocc : ∀ k q, M k = some q → occ t k) :
    (varsOf H (trav H (ren M t) p [])).length + vcnt H0 = vcnt H := by
  have hok : MapOk H M := hg.ok (fun k p h => by cases h)
  have hl := hg.len
  have hv : ∀ i, isV H i = true ↔ ∃ d, H[i]? = some d ∧ d.c.kind = 6 := fun i => by
    unfold isV
    cases hd : H[i]? with
    | none => simp
    | some d => simp
  have hv0 : ∀ i, i < H0.length → isV H0 i = isV H i := fun i hi => by
    have h1 := List.getElem?_eq_getElem hi
    unfold isV; rw [h1, hg.get h1]
  have hperm : (varsOf H (trav H (ren M t) p []) ++ (List.range H0.length).filter (isV H0)).Perm ((List.range H.length).filter (isV H)) := by
    refine (List.perm_ext_iff_of_nodup ?_ (List.Sublist.nodup List.filter_sublist List.nodup_range)).2 fun i => ?_
    · refine List.nodup_append.2 ⟨List.Sublist.nodup List.filter_sublist (trav_nodup h List.nodup_nil), List.Sublist.nodup List.filter_sublist List.nodup_range, fun a ha b hb e => ?_⟩
      obtain ⟨k, hk⟩ := (vars_of_im h hok hocc a).1 ha
      rcases hg.new k a hk with h1 | ⟨h1, _⟩
      · cases h1
      · have := List.mem_range.1 (List.mem_filter.1 hb).1
        omega
    · rw [List.mem_append, vars_of_im h hok hocc, List.mem_filter, List.mem_filter, List.mem_range, List.mem_range]
      constructor
      · rintro (⟨k, hk⟩ | ⟨h1, h2⟩)
        · obtain ⟨d, q1, _, q3⟩ := hok k i hk
          exact ⟨(List.getElem?_eq_some_iff.1 q1).1, (hv i).2 ⟨d, q1, q3⟩⟩
        · exact ⟨by omega, by rw [← hv0 i h1]; exact h2⟩
      · rintro ⟨h1, h2⟩
        by_cases hi : i < H0.length
        · exact .inr ⟨hi, by rw [hv0 i hi]; exact h2⟩
        · obtain ⟨d, q1, q2⟩ := (hv i).1 h2
          exact .inl (hg.back i d (by omega) q1 q2)
  have := hperm.length_eq
  rw [List.length_append, idx_cnt H0 _ (Nat.le_refl _), idx_cnt H _ (Nat.le_refl _), List.take_length, List.take_length] at this
  exact this
end Go.Proofs.Yteolbbgnkbcfmaa
