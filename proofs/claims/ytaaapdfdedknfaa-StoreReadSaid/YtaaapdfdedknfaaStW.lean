/- The laws' Made: a type is made in a store, its variables by a map. Plain facts. -/
import Derived.Test.YtaaapdfdedknfaaStV
import Derived.Test.YtaaapdfdedknfaaStS
namespace Go.Proofs.Ytaaapdfdedknfaa
open Go Go.RowKit
open Tp (T)
open Sg (Of Rt Den Dens Alk Mkd trav travs rootOf kidsOf)
mutual
/-- The node p is the type, its variables by the map; all own roots. -/
def Im (H : List SNd) (M : IMap) : T → Nat → Prop
  | .mk k n l, p => ∃ d, H[p]? = some d ∧ d.up = p ∧ d.c.kind = k ∧ (k = 6 → M n = some p) ∧ Ims H M l (kidL d.c.kind d.c.a d.c.b)
def Ims (H : List SNd) (M : IMap) : List T → List Int → Prop
  | [], xs => xs = []
  | t :: ts, xs => ∃ (q : Nat) (rest : List Int), xs = (q : Int) :: rest ∧ Im H M t q ∧ Ims H M ts rest
end
mutual
theorem Im.mono {H N : List SNd} {M M' : IMap} (hM : ∀ k p, M k = some p → M' k = some p) : ∀ {t : T} {p : Nat}, Im H M t p → Im (H ++ N) M' t p
  | .mk k n l, p, h => by
    obtain ⟨d, h1, h2, h3, h4, h5⟩ := h
    exact ⟨d, by rw [List.getElem?_append_left (List.getElem?_eq_some_iff.1 h1).1]; exact h1, h2, h3, fun e => hM _ _ (h4 e), Ims.mono hM h5⟩
theorem Ims.mono {H N : List SNd} {M M' : IMap} (hM : ∀ k p, M k = some p → M' k = some p) : ∀ {l : List T} {xs : List Int}, Ims H M l xs → Ims (H ++ N) M' l xs
  | [], xs, h => h
  | t :: ts, xs, h => by
    obtain ⟨q, rest, h1, h2, h3⟩ := h
    exact ⟨q, rest, h1, Im.mono hM h2, Ims.mono hM h3⟩
end
mutual
/-- The type that the node stands for. -/
def ren (M : IMap) : T → T
  | .mk k n l => .mk k (if k = 6 then (((M n).getD 0 : Nat) : Int) else 0) (rens M l)
def rens (M : IMap) : List T → List T
  | [] => []
  | t :: ts => ren M t :: rens M ts
end
mutual
theorem Im.den {H : List SNd} {M : IMap} : ∀ {t : T} {p : Nat}, Im H M t p → Den H (ren M t) p
  | .mk k n l, p, h => by
    obtain ⟨d, h1, h2, h3, h4, h5⟩ := h
    refine ⟨d, d, h1, by rw [h2]; exact h1, rfl, h3, ?_, Ims.dens h5⟩
    by_cases e : k = 6
    · rw [if_pos e, if_pos e, h4 e, h2]; rfl
    · rw [if_neg e, if_neg e]
theorem Ims.dens {H : List SNd} {M : IMap} : ∀ {l : List T} {xs : List Int}, Ims H M l xs → Dens H (rens M l) xs
  | [], xs, h => h
  | t :: ts, xs, h => by
    obtain ⟨q, rest, h1, h2, h3⟩ := h
    exact ⟨q, rest, h1, Im.den h2, Ims.dens h3⟩
end
mutual
theorem ren_size (M : IMap) : ∀ t : T, Tp.size (ren M t) = Tp.size t
  | .mk k n l => by simp only [ren, Tp.size, rens_size M l]
theorem rens_size (M : IMap) : ∀ l : List T, Tp.sizes (rens M l) = Tp.sizes l
  | [] => rfl
  | t :: ts => by simp only [rens, Tp.sizes, ren_size M t, rens_size M ts]
end
/-- How many variables. -/
def vcnt (H : List SNd) : Nat := (H.filter fun d => decide (d.c.kind = 6)).length
theorem vcnt_snoc (H : List SNd) (d : SNd) : vcnt (H ++ [d]) = vcnt H + if d.c.kind = 6 then 1 else 0 := by
  unfold vcnt
  rw [List.filter_append, List.length_append]
  by_cases h : d.c.kind = 6 <;> simp [h]
mutual
/-- The variable occurs in the type. -/
def occ : T → Int → Prop
  | .mk k n l, i => (k = 6 ∧ n = i) ∨ occs l i
def occs : List T → Int → Prop
  | [], _ => False
  | t :: ts, i => occ t i ∨ occs ts i
end
/-- What making a type leaves: more nodes, more entries. -/
structure Grow (lev : Int) (H : List SNd) (M : IMap) (H' : List SNd) (M' : IMap) : Prop where
  nodes : ∃ N, H' = H ++ N ∧ ∀ d ∈ N, d.c.met = 0 ∧ I64 d.c.kind
  own : ∀ i d, H.length ≤ i → H'[i]? = some d → d.up = i
  ext : ∀ k p, M k = some p → M' k = some p
  new : ∀ k p, M' k = some p → M k = some p ∨ (H.length ≤ p ∧ ∃ d, H'[p]? = some d ∧ d.c.kind = 6 ∧ d.c.level = lev)
  one : ∀ k k' p, M' k = some p → M' k' = some p → H.length ≤ p → (∀ j q, M j = some q → q < H.length) → k = k'
  back : ∀ i d, H.length ≤ i → H'[i]? = some d → d.c.kind = 6 → ∃ k, M' k = some i
theorem Grow.len {lev : Int} {H H' : List SNd} {M M' : IMap} (h : Grow lev H M H' M') : H.length ≤ H'.length := by
  obtain ⟨N, rfl, _⟩ := h.nodes; rw [List.length_append]; omega
theorem Grow.get {lev : Int} {H H' : List SNd} {M M' : IMap} (h : Grow lev H M H' M') {i : Nat} {d : SNd} (hd : H[i]? = some d) : H'[i]? = some d := by
  obtain ⟨N, rfl, _⟩ := h.nodes; rw [List.getElem?_append_left (List.getElem?_eq_some_iff.1 hd).1]; exact hd
theorem Grow.im {lev : Int} {H H' : List SNd} {M M' : IMap} (h : Grow lev H M H' M') {t : T} {p : Nat} (hp : Im H M t p) : Im H' M' t p := by
  obtain ⟨N, rfl, _⟩ := h.nodes; exact hp.mono h.ext
theorem Grow.refl (lev : Int) (H : List SNd) (M : IMap) : Grow lev H M H M :=
  ⟨⟨[], by simp, fun _ h => by cases h⟩, fun i d h1 h2 => by have := (List.getElem?_eq_some_iff.1 h2).1; omega, fun _ _ h => h, fun _ _ h => .inl h,
    fun k k' p h1 h2 h3 h4 => by have := h4 _ _ h1; omega, fun i d h1 h2 => by have := (List.getElem?_eq_some_iff.1 h2).1; omega⟩
/-- Every entry is a variable. -/
def MapOk (H : List SNd) (M : IMap) : Prop := ∀ k p, M k = some p → ∃ d, H[p]? = some d ∧ d.up = p ∧ d.c.kind = 6
theorem MapOk.lt {H : List SNd} {M : IMap} (h : MapOk H M) {k : Int} {p : Nat} (hk : M k = some p) : p < H.length := by
  obtain ⟨d, h1, _⟩ := h k p hk; exact (List.getElem?_eq_some_iff.1 h1).1
theorem Grow.ok {lev : Int} {H H' : List SNd} {M M' : IMap} (h : Grow lev H M H' M') (hM : MapOk H M) : MapOk H' M' := fun k p hp => by
  rcases h.new k p hp with h1 | ⟨h1, d, h2, h3, _⟩
  · obtain ⟨d, q1, q2, q3⟩ := hM k p h1; exact ⟨d, h.get q1, q2, q3⟩
  · exact ⟨d, h2, h.own p d h1 h2, h3⟩
theorem Grow.trans {lev : Int} {H H' H'' : List SNd} {M M' M'' : IMap} (h : Grow lev H M H' M') (k : Grow lev H' M' H'' M'') (hM : MapOk H M) : Grow lev H M H'' M'' := by
  have hl := h.len
  refine ⟨?_, fun i d h1 h2 => ?_, fun j p h1 => k.ext j p (h.ext j p h1), fun j p h1 => ?_, fun j j' p h1 h2 h3 h4 => ?_, fun i d h1 h2 h3 => ?_⟩
  · obtain ⟨N, e1, hN⟩ := h.nodes
    obtain ⟨N', e2, hN'⟩ := k.nodes
    refine ⟨N ++ N', by rw [e2, e1, List.append_assoc], fun d hd => ?_⟩
    rcases List.mem_append.1 hd with hd | hd
    · exact hN d hd
    · exact hN' d hd
  · by_cases hi : H'.length ≤ i
    · exact k.own i d hi h2
    · obtain ⟨e, he⟩ : ∃ e, H'[i]? = some e := ⟨_, List.getElem?_eq_getElem (by omega)⟩
      have := k.get he; rw [h2] at this; injection this with this; subst this
      exact h.own i d h1 he
  · rcases k.new j p h1 with h2 | ⟨h2, h3⟩
    · rcases h.new j p h2 with h3 | ⟨h3, d, h4, h5⟩
      · exact .inl h3
      · exact .inr ⟨h3, d, k.get h4, h5⟩
    · exact .inr ⟨by omega, h3⟩
  · have hM' := h.ok hM
    by_cases hp : H'.length ≤ p
    · exact k.one j j' p h1 h2 hp (fun i q hq => hM'.lt hq)
    · have e1 : M' j = some p := by
        rcases k.new j p h1 with h5 | ⟨h5, _⟩
        · exact h5
        · omega
      have e2 : M' j' = some p := by
        rcases k.new j' p h2 with h5 | ⟨h5, _⟩
        · exact h5
        · omega
      exact h.one j j' p e1 e2 h3 h4
  · by_cases hi : H'.length ≤ i
    · exact k.back i d hi h2 h3
    · obtain ⟨e, he⟩ : ∃ e, H'[i]? = some e := ⟨_, List.getElem?_eq_getElem (by omega)⟩
      have := k.get he; rw [h2] at this; injection this with this; subst this
      obtain ⟨j, hj⟩ := h.back i d h1 he h3
      exact ⟨j, k.ext j i hj⟩
/-- A node more that is no variable. -/
theorem Grow.node (lev : Int) (H : List SNd) (M : IMap) (c : Sg.Cr) (hk : c.kind ≠ 6) (hm : c.met = 0) (hi : I64 c.kind) : Grow lev H M (H ++ [⟨c, H.length⟩]) M := by
  have hget : ∀ i d, H.length ≤ i → (H ++ [(⟨c, H.length⟩ : SNd)])[i]? = some d → i = H.length ∧ d = ⟨c, H.length⟩ := fun i d h1 h2 => by
    have hl := (List.getElem?_eq_some_iff.1 h2).1
    rw [List.length_append, List.length_singleton] at hl
    obtain rfl : i = H.length := by omega
    rw [List.getElem?_append_right (Nat.le_refl _), Nat.sub_self] at h2
    injection h2 with h2; exact ⟨rfl, h2.symm⟩
  refine ⟨⟨_, rfl, fun d hd => by obtain rfl := List.mem_singleton.1 hd; exact ⟨hm, hi⟩⟩, fun i d h1 h2 => ?_, fun _ _ h => h, fun _ _ h => .inl h, fun k k' p h1 h2 h3 h4 => by have := h4 _ _ h1; omega, fun i d h1 h2 h3 => ?_⟩
  · obtain ⟨rfl, rfl⟩ := hget i d h1 h2; rfl
  · obtain ⟨rfl, rfl⟩ := hget i d h1 h2; exact absurd h3 hk
/-- A variable more. -/
theorem Grow.var (lev : Int) (H : List SNd) (M : IMap) (n : Int) (hn : M n = none) : Grow lev H M (H ++ [⟨⟨6, lev, 0, 0, 0⟩, H.length⟩]) (imPut M n H.length) := by
  have hat : (H ++ [(⟨⟨6, lev, 0, 0, 0⟩, H.length⟩ : SNd)])[H.length]? = some ⟨⟨6, lev, 0, 0, 0⟩, H.length⟩ := by rw [List.getElem?_append_right (Nat.le_refl _), Nat.sub_self]; rfl
  have hget : ∀ i d, H.length ≤ i → (H ++ [(⟨⟨6, lev, 0, 0, 0⟩, H.length⟩ : SNd)])[i]? = some d → i = H.length ∧ d = ⟨⟨6, lev, 0, 0, 0⟩, H.length⟩ := fun i d h1 h2 => by
    have hl := (List.getElem?_eq_some_iff.1 h2).1
    rw [List.length_append, List.length_singleton] at hl
    obtain rfl : i = H.length := by omega
    rw [hat] at h2
    injection h2 with h2; exact ⟨rfl, h2.symm⟩
  refine ⟨⟨_, rfl, fun d hd => by obtain rfl := List.mem_singleton.1 hd; exact ⟨rfl, (show I64 6 from i64_nat (by decide) (by decide))⟩⟩, fun i d h1 h2 => ?_, fun k p h => ?_, fun k p h => ?_, fun k k' p h1 h2 h3 h4 => ?_, fun i d h1 h2 h3 => ?_⟩
  · obtain ⟨rfl, rfl⟩ := hget i d h1 h2; rfl
  · unfold imPut
    rw [if_neg (fun e => by rw [e, hn] at h; cases h)]; exact h
  · unfold imPut at h
    split at h
    · injection h with h; subst h; exact .inr ⟨Nat.le_refl _, _, hat, rfl, rfl⟩
    · exact .inl h
  · unfold imPut at h1 h2
    split at h1
    · rename_i e1
      split at h2
      · rename_i e2; rw [e1, e2]
      · have := h4 _ _ h2; omega
    · have := h4 _ _ h1; omega
  · obtain ⟨rfl, rfl⟩ := hget i d h1 h2
    exact ⟨n, by unfold imPut; rw [if_pos rfl]⟩
/-- The leaves are where they belong. -/
def LvOk (H : List SNd) : Prop := ∀ i : Nat, i < 5 → ∃ d, H[i]? = some d ∧ d.up = i ∧ d.c.kind = (i : Int) + 1
theorem Grow.lv {lev : Int} {H H' : List SNd} {M M' : IMap} (h : Grow lev H M H' M') (hl : LvOk H) : LvOk H' := fun i hi => by
  obtain ⟨d, h1, h2⟩ := hl i hi; exact ⟨d, h.get h1, h2⟩
end Go.Proofs.Ytaaapdfdedknfaa
