/- The annotations are written one after another; what lies there at the end. What lies there when all annotations have been written: the expression with these types. Rows laid anew, annotations written: what the walk's two loops keep. Annotations being written: what a walk over them still finds. -/
import Derived.Test.YtmmhpibkjdlkgaaGreatWtP
import Derived.Laws.IdiomCopy
import Derived.Test.YtmmhpibkjdlkgaaGreatTxA
import Derived.Test.YtmmhpibkjdlkgaaGreatTdP
namespace Go.Proofs.YtmmhpibkjdlkgaaGreat
open Go Go.RowKit Go.Shelf
open Ex (E)

/-- Row by row: what is said of a key and the type at its place. -/
def Rel {α β : Type} (P : α → β → Prop) (a : List α) (m : List β) : Prop := ∀ (j : Nat) (p : α), a[j]? = some p → ∃ t, m[j]? = some t ∧ P p t
theorem Rel.left {α β : Type} {P : α → β → Prop} {a b : List α} {m : List β} (h : Rel P (a ++ b) m) : Rel P a m := fun j p hj => h j p (by
  rw [List.getElem?_append_left (List.getElem?_eq_some_iff.1 hj).1]; exact hj)
theorem Rel.right {α β : Type} {P : α → β → Prop} {a b : List α} {m : List β} (h : Rel P (a ++ b) m) : Rel P b (m.drop a.length) := fun j p hj => by
  obtain ⟨t, h1, h2⟩ := h (a.length + j) p (by rw [List.getElem?_append_right (by omega), Nat.add_sub_cancel_left]; exact hj)
  exact ⟨t, by rw [List.getElem?_drop]; exact h1, h2⟩
section
variable {B0 : Nat} {G : List Nat → Nat} {Gd : Nat → Prop}
/-- What of a node is there whatever its annotations are. -/
structure NBase (Gd : Nat → Prop) (B0 : Nat) (G : List Nat → Nat) (V : World) (t : E × List Nat) : Prop where
  i64 : I64 t.1.kind ∧ I64 t.1.num ∧ I64 t.1.op
  c0 : V.cell? ⟨(plc B0 G t.2).1, (plc B0 G t.2).2, none⟩ = some (.int .i64 t.1.kind)
  c1 : V.cell? ⟨(plc B0 G t.2).1, (plc B0 G t.2).2 + 1, none⟩ = some (.int .i64 t.1.frm)
  c2 : V.cell? ⟨(plc B0 G t.2).1, (plc B0 G t.2).2 + 2, none⟩ = some (.int .i64 t.1.til)
  c3 : V.cell? ⟨(plc B0 G t.2).1, (plc B0 G t.2).2 + 3, none⟩ = some (.string ⟨t.1.nm.toArray⟩)
  c4 : V.cell? ⟨(plc B0 G t.2).1, (plc B0 G t.2).2 + 4, none⟩ = some (.string ⟨t.1.ar.toArray⟩)
  c5 : V.cell? ⟨(plc B0 G t.2).1, (plc B0 G t.2).2 + 5, none⟩ = some (.int .i64 t.1.num)
  c6 : V.cell? ⟨(plc B0 G t.2).1, (plc B0 G t.2).2 + 6, none⟩ = some (.string ⟨t.1.s.toArray⟩)
  c7 : V.cell? ⟨(plc B0 G t.2).1, (plc B0 G t.2).2 + 7, none⟩ = some (.int .i64 t.1.op)
  a : Tp.none t.1.a = true → NodeAt Gd V t.1.a (plc B0 G t.2).1 ((plc B0 G t.2).2 + 8)
  b : Tp.none t.1.b = true → NodeAt Gd V t.1.b (plc B0 G t.2).1 ((plc B0 G t.2).2 + 11)
  pats : ∃ pa pc, V.cell? ⟨(plc B0 G t.2).1, (plc B0 G t.2).2 + 14, none⟩ = some (.slice pa t.1.pats.length pc) ∧ t.1.pats.length ≤ pc ∧ pc ≤ maxLen ∧ PKids Gd V t.1.pats pa
  kids : ∃ a cap, V.cell? ⟨(plc B0 G t.2).1, (plc B0 G t.2).2 + 15, none⟩ = some (.slice a t.1.kids.length cap) ∧ t.1.kids.length ≤ cap ∧ cap ≤ maxLen ∧ Flat a ∧ (t.1.kids ≠ [] → a = some ⟨G t.2, 0, none⟩ ∧ Gd (G t.2))
def APut (Gd : Nat → Prop) (B0 : Nat) (G : List Nat → Nat) (V : World) (p : List Nat × Nat) (t : Tp.T) : Prop := NodeAt Gd V t (plc B0 G p.1).1 ((plc B0 G p.1).2 + p.2)
theorem own_a {A B : Tp.T} {q : List Nat} {m : List Tp.T} {V : World} (h : Rel (APut Gd B0 G V) (ownK A B q) m) (hA : Tp.none A = true → NodeAt Gd V A (plc B0 G q).1 ((plc B0 G q).2 + 8)) :
    NodeAt Gd V (if Tp.none A then A else m.headD A) (plc B0 G q).1 ((plc B0 G q).2 + 8) := by
  unfold ownK at h
  cases hn : Tp.none A with
  | true => exact hA hn
  | false =>
    rw [hn] at h
    obtain ⟨t, h1, h2⟩ := h 0 (q, 8) rfl
    cases m with
    | nil => simp at h1
    | cons x r => simp at h1; subst h1; exact h2
theorem own_b {A B : Tp.T} {q : List Nat} {m : List Tp.T} {V : World} (h : Rel (APut Gd B0 G V) (ownK A B q) m) (hB : Tp.none B = true → NodeAt Gd V B (plc B0 G q).1 ((plc B0 G q).2 + 11)) :
    NodeAt Gd V (if Tp.none B then B else (m.drop (if Tp.none A then 0 else 1)).headD B) (plc B0 G q).1 ((plc B0 G q).2 + 11) := by
  unfold ownK at h
  cases hn : Tp.none B with
  | true => exact hB hn
  | false =>
    rw [hn] at h
    cases hA : Tp.none A with
    | true =>
      rw [hA] at h
      obtain ⟨t, h1, h2⟩ := h 0 (q, 11) rfl
      cases m with
      | nil => simp at h1
      | cons x r => simp at h1; subst h1; exact h2
    | false =>
      rw [hA] at h
      obtain ⟨t, h1, h2⟩ := h 1 (q, 11) rfl
      match m, h1 with
      | [], h1 => simp at h1
      | [x], h1 => simp at h1
      | x :: y :: r, h1 => simp at h1; subst h1; exact h2
mutual
theorem wth_lies {V : World} : ∀ (e : E) (q : List Nat) (d : Nat) (m : List Tp.T), (∀ k ∈ Px.pre e q d, NBase Gd B0 G V k.1) → Rel (APut Gd B0 G V) (ak e q) m → ENode Gd V (Ex.wth e m) (plc B0 G q).1 (plc B0 G q).2
  | .mk k f t nm ar n s op A B ps l, q, d, m, hb, hr => by
    rw [ak] at hr
    have hn := hb _ (by rw [Px.pre]; exact List.mem_cons_self ..)
    obtain ⟨ka, kc, k1, k2, k3, -, k5⟩ := hn.kids
    have hkids : l ≠ [] → Gd (G q) := fun h => (k5 h).2
    have hks := wths_lies l q 0 (d + 1) (m.drop (annT A B).length) (fun k hk => hb k (by rw [Px.pre]; exact List.mem_cons_of_mem _ hk)) hkids (by have := hr.right; rwa [ownK_len] at this)
    simp only [Ex.wth, ENode]
    refine ⟨⟨hn.i64, hn.c0, hn.c1, hn.c2, hn.c3, hn.c4, hn.c5, hn.c6, hn.c7, own_a hr.left hn.a, own_b hr.left hn.b, hn.pats⟩, ka, kc, ?_, ?_, k3, ?_⟩
    · rw [Ex.wths_len]; exact k1
    · rw [Ex.wths_len]; exact k2
    · cases l with
      | nil => simp [Ex.wths, EKids]
      | cons x r =>
        rw [(k5 (List.cons_ne_nil x r)).1]
        exact hks
theorem wths_lies {V : World} : ∀ (l : List E) (q : List Nat) (i d : Nat) (m : List Tp.T), (∀ k ∈ Px.pres l q i d, NBase Gd B0 G V k.1) → (l ≠ [] → Gd (G q)) → Rel (APut Gd B0 G V) (aks l q i) m → EKids Gd V (Ex.wths l m) (some ⟨G q, i * 16, none⟩)
  | [], q, i, d, m, _, _, _ => by simp [Ex.wths, EKids]
  | x :: r, q, i, d, m, hb, hg, hr => by
    rw [aks] at hr
    have h1 := wth_lies x (i :: q) d m (fun k hk => hb k (by rw [Px.pres]; exact List.mem_append_left _ hk)) hr.left
    have h2 := wths_lies r q (i + 1) d (m.drop (Ex.anns x).length) (fun k hk => hb k (by rw [Px.pres]; exact List.mem_append_right _ hk)) (fun _ => hg (by simp)) (by have := hr.right; rwa [ak_len] at this)
    simp only [Ex.wths, EKids]
    refine ⟨G q, i * 16, rfl, hg (by simp), h1, ?_⟩
    rw [show i * 16 + 16 = (i + 1) * 16 from by omega]; exact h2
end
/-- These cells are an annotation's. -/
def inR (p : Option Addr) (b o : Nat) : Prop := ∃ o', p = some ⟨b, o', none⟩ ∧ o' ≤ o ∧ o < o' + 3
def TPut (n0 : Nat) (w0 V : World) (p : Option Addr) (t : Tp.T) : Prop := ∃ b o a cap, p = some ⟨b, o, none⟩ ∧ TyAt (LT n0) w0 t a cap ∧ V.cell? ⟨b, o, none⟩ = some (.int .i64 t.kind) ∧ V.cell? ⟨b, o + 1, none⟩ = some (.int .i64 t.num) ∧ V.cell? ⟨b, o + 2, none⟩ = some (.slice a t.kids.length cap)
/-- So many annotations have been written. -/
structure Wrt (n0 B0 : Nat) (w0 V1 : World) (G : List Nat → Nat) (e0 : E) (l : List Tp.T) (xs : List (Vi (E × List Nat))) (k : Nat) (V : World) : Prop where
  low : Below n0 w0 V
  size : V1.heap.size ≤ V.heap.size
  fz : ∀ k, Used B0 G xs k → ∀ o, V.frozen? ⟨k, o, none⟩ = false
  rest : ∀ b o, Used B0 G xs b → (∀ j, j < k → ∀ p, (ak e0 [])[j]? = some p → ¬ inR (plcA B0 G p) b o) → V.cell? ⟨b, o, none⟩ = V1.cell? ⟨b, o, none⟩
  put : ∀ j, j < k → ∀ p t, (ak e0 [])[j]? = some p → l[j]? = some t → TPut n0 w0 V (plcA B0 G p) t
variable {n0 base : Nat} {w0 V V1 : World} {e0 : E} {xs : List (Vi (E × List Nat))} {l : List Tp.T}
theorem key_known (h : Cop n0 B0 base w0 e0 G xs V1) (hx : xs.map Vi.key = Px.pre e0 [] 1) {p : List Nat × Nat} (hp : p ∈ ak e0 []) : ∃ t, Known e0 xs t ∧ (∃ k ∈ Px.pre e0 [] 1, k.1 = t) ∧ p.1 = t.2 ∧ ((p.2 = 8 ∧ Tp.none t.1.a = false) ∨ (p.2 = 11 ∧ Tp.none t.1.b = false)) := by
  obtain ⟨k, hk, h1, h2⟩ := ak_mem e0 [] 1 p hp
  obtain ⟨y, hy, hyt⟩ := node_vis hx hk
  exact ⟨k.1, by rw [← hyt]; exact h.kn y hy, ⟨k, hk, rfl⟩, h1, h2⟩
theorem key_of_range (h : Cop n0 B0 base w0 e0 G xs V1) (hx : xs.map Vi.key = Px.pre e0 [] 1) {p : List Nat × Nat} (hp : p ∈ ak e0 []) {t : E × List Nat} (ht : Known e0 xs t) {j : Nat} (hj : j < 16) (hin : inR (plcA B0 G p) (plc B0 G t.2).1 ((plc B0 G t.2).2 + j)) :
    p.1 = t.2 ∧ ((p.2 = 8 ∧ 8 ≤ j ∧ j < 11) ∨ (p.2 = 11 ∧ 11 ≤ j ∧ j < 14)) := by
  obtain ⟨u, hu, _, hpu, hpf⟩ := key_known h hx hp
  obtain ⟨o', he, h1, h2⟩ := hin
  unfold plcA at he
  injection he with he
  injection he with e1 e2
  have m1 := plc_16 B0 G p.1
  have m2 := plc_16 B0 G t.2
  have hf : p.2 = 8 ∨ p.2 = 11 := hpf.imp And.left And.left
  have e3 : (plc B0 G p.1).2 = (plc B0 G t.2).2 := by omega
  have e4 : p.1 = t.2 := by
    rw [hpu]
    refine h.plc_inj hu ht ?_
    rw [← hpu, Prod.ext_iff]
    exact ⟨e1, e3⟩
  refine ⟨e4, ?_⟩
  omega
theorem range_key (h : Cop n0 B0 base w0 e0 G xs V1) (hx : xs.map Vi.key = Px.pre e0 [] 1) {p p' : List Nat × Nat} (hp : p ∈ ak e0 []) (hp' : p' ∈ ak e0 []) {b o : Nat} (h1 : inR (plcA B0 G p) b o) (h2 : inR (plcA B0 G p') b o) : p = p' := by
  obtain ⟨u, hu, _, hpu, hpf⟩ := key_known h hx hp
  obtain ⟨o', he, h3, h4⟩ := id h1
  unfold plcA at he
  injection he with he
  injection he with e1 e2
  have hf : p.2 = 8 ∨ p.2 = 11 := hpf.imp And.left And.left
  rw [hpu] at e1 e2
  have hj : o = (plc B0 G u.2).2 + (o - (plc B0 G u.2).2) := by omega
  rw [← e1, hj] at h2
  obtain ⟨e3, e4⟩ := key_of_range h hx hp' hu (by omega) h2
  rw [Prod.ext_iff]
  exact ⟨hpu.trans e3.symm, by omega⟩
theorem used_key (h : Cop n0 B0 base w0 e0 G xs V1) (hx : xs.map Vi.key = Px.pre e0 [] 1) {p : List Nat × Nat} (hp : p ∈ ak e0 []) : Used B0 G xs (plc B0 G p.1).1 := by
  obtain ⟨u, hu, _, hpu, _⟩ := key_known h hx hp
  rw [hpu]; exact used_of hu
theorem Wrt.start (h : Cop n0 B0 base w0 e0 G xs V1) (hlow : Below n0 w0 V) (hsz : V1.heap.size ≤ V.heap.size) (hu : ∀ k, Used B0 G xs k → V.heap[k]? = V1.heap[k]?) : Wrt n0 B0 w0 V1 G e0 l xs 0 V :=
  ⟨hlow, hsz, fun k hk o => by rw [← h.fz k hk o]; unfold World.frozen?; rw [hu k hk], fun b o hb _ => World.cell?_of_block (a := ⟨b, o, none⟩) (hu b hb), fun j hj => absurd hj (Nat.not_lt_zero j)⟩
theorem Wrt.same {k : Nat} {V' : World} (hw : Wrt n0 B0 w0 V1 G e0 l xs k V) (h : Cop n0 B0 base w0 e0 G xs V1) (hx : xs.map Vi.key = Px.pre e0 [] 1) (hlow : Below n0 w0 V') (hsz : V.heap.size ≤ V'.heap.size) (hu : ∀ k, Used B0 G xs k → V'.heap[k]? = V.heap[k]?) : Wrt n0 B0 w0 V1 G e0 l xs k V' := by
  refine ⟨hlow, Nat.le_trans hw.size hsz, fun k hk o => by rw [← hw.fz k hk o]; unfold World.frozen?; rw [hu k hk], fun b o hb hj => (World.cell?_of_block (a := ⟨b, o, none⟩) (hu b hb)).trans (hw.rest b o hb hj), fun j hj p t hp ht => ?_⟩
  obtain ⟨b, o, a, cap, h1, h2, h3, h4, h5⟩ := hw.put j hj p t hp ht
  have hb : Used B0 G xs b := by
    have := used_key h hx (List.mem_of_getElem? hp)
    unfold plcA at h1
    injection h1 with h1; injection h1 with h1
    rwa [h1] at this
  exact ⟨b, o, a, cap, h1, h2, (World.cell?_of_block (a := ⟨b, o, none⟩) (hu b hb)).trans h3, (World.cell?_of_block (a := ⟨b, o + 1, none⟩) (hu b hb)).trans h4, (World.cell?_of_block (a := ⟨b, o + 2, none⟩) (hu b hb)).trans h5⟩
theorem Wrt.step {k : Nat} (hw : Wrt n0 B0 w0 V1 G e0 l xs k V) (h : Cop n0 B0 base w0 e0 G xs V1) (hx : xs.map Vi.key = Px.pre e0 [] 1) {p : List Nat × Nat} (hp : (ak e0 [])[k]? = some p) {t : Tp.T} (ht : l[k]? = some t) {a : Option Addr} {cap : Nat} (hty : TyAt (LT n0) w0 t a cap) :
    Wrt n0 B0 w0 V1 G e0 l xs (k + 1) (V.setCells (plc B0 G p.1).1 ((plc B0 G p.1).2 + p.2) [.int .i64 t.kind, .int .i64 t.num, .slice a t.kids.length cap]) := by
  have hpm := List.mem_of_getElem? hp
  have hub := used_key h hx hpm
  have hn0 := h.lt hub
  obtain ⟨u, hu, _, hpu, hpf⟩ := key_known h hx hpm
  have hnd := ak_nodup e0 []
  have hne : ∀ j, j < k → ∀ p', (ak e0 [])[j]? = some p' → p' ≠ p := fun j hj p' hp' e => by
    subst e
    obtain ⟨h1, h2⟩ := List.getElem?_eq_some_iff.1 hp
    obtain ⟨h3, h4⟩ := List.getElem?_eq_some_iff.1 hp'
    exact List.pairwise_iff_getElem.1 (show List.Pairwise (fun a b => a ≠ b) (ak e0 []) from hnd) j k h3 h1 hj (h4.trans h2.symm)
  have hin : ∀ r, r < 3 → inR (plcA B0 G p) (plc B0 G p.1).1 ((plc B0 G p.1).2 + p.2 + r) := fun r hr => ⟨_, rfl, by omega, by omega⟩
  have hex : ∀ r, r < 3 → (V.cell? ⟨(plc B0 G p.1).1, (plc B0 G p.1).2 + p.2 + r, none⟩).isSome = true := fun r hr => by
    rw [hw.rest _ _ hub (fun j hj p' hp' hi => hne j hj p' hp' (range_key h hx (List.mem_of_getElem? hp') hpm hi (hin r hr)))]
    obtain ⟨s, _, hc⟩ := h.lay u hu
    rw [hpu]
    have hf : p.2 + r < 15 ∧ p.2 + r < (evCells u.1 s).length := by simp only [evCells, List.length_cons, List.length_nil]; rcases hpf with hpf | hpf <;> omega
    have := hc (p.2 + r) _ (List.getElem?_eq_getElem hf.2) (.inl hf.1)
    rw [show (plc B0 G u.2).2 + p.2 + r = (plc B0 G u.2).2 + (p.2 + r) from by omega, this]; rfl
  have hout : ∀ b o, ¬ inR (plcA B0 G p) b o → (V.setCells (plc B0 G p.1).1 ((plc B0 G p.1).2 + p.2) [.int .i64 t.kind, .int .i64 t.num, .slice a t.kids.length cap]).cell? ⟨b, o, none⟩ = V.cell? ⟨b, o, none⟩ := fun b o hno => by
    refine World.cell?_setCells_out _ _ _ _ _ fun hb _ => ?_
    rcases Nat.lt_or_ge o ((plc B0 G p.1).2 + p.2) with h1 | h1
    · exact .inl h1
    · rcases Nat.lt_or_ge o ((plc B0 G p.1).2 + p.2 + 3) with h2 | h2
      · refine absurd ⟨(plc B0 G p.1).2 + p.2, ?_, h1, h2⟩ hno
        show some (Addr.mk (plc B0 G p.1).1 _ none) = some (Addr.mk b _ none)
        rw [show b = (plc B0 G p.1).1 from hb]
      · exact .inr h2
  have hput : ∀ r (hr : r < 3), (V.setCells (plc B0 G p.1).1 ((plc B0 G p.1).2 + p.2) [.int .i64 t.kind, .int .i64 t.num, .slice a t.kids.length cap]).cell? ⟨(plc B0 G p.1).1, (plc B0 G p.1).2 + p.2 + r, none⟩ = some ([Value.int .i64 t.kind, .int .i64 t.num, .slice a t.kids.length cap][r]) := fun r hr =>
    World.cell?_setCells_in _ [Value.int .i64 t.kind, .int .i64 t.num, .slice a t.kids.length cap] _ _ (fun j hj => hex j hj) r hr
  refine ⟨?_, ?_, fun k hk o => ?_, fun b o hb hj => ?_, fun j hj p' t' hp' ht' => ?_⟩
  · have hT : Turns (fun k => n0 ≤ k) V (V.setCells (plc B0 G p.1).1 ((plc B0 G p.1).2 + p.2) [.int .i64 t.kind, .int .i64 t.num, .slice a t.kids.length cap]) := ((Turns.setCell _ ⟨(plc B0 G p.1).1, _, none⟩ _ hn0.1).trans (Turns.setCell _ ⟨(plc B0 G p.1).1, _, none⟩ _ hn0.1)).trans (Turns.setCell _ ⟨(plc B0 G p.1).1, _, none⟩ _ hn0.1)
    exact hT.below hw.low (fun _ h => h) (by have := hw.size; have := h.b0; omega)
  · have : (V.setCells (plc B0 G p.1).1 ((plc B0 G p.1).2 + p.2) [.int .i64 t.kind, .int .i64 t.num, .slice a t.kids.length cap]).heap.size = V.heap.size := by simp [World.setCells]
    rw [this]; exact hw.size
  · rw [← hw.fz k hk o]; simp [World.setCells]
  · rw [hout b o (hj k (Nat.lt_succ_self k) p hp)]
    exact hw.rest b o hb fun j' hj' => hj j' (Nat.lt_succ_of_lt hj')
  · rcases Nat.lt_succ_iff_lt_or_eq.1 hj with hj | rfl
    · obtain ⟨b, o, a', cap', h1, h2, h3, h4, h5⟩ := hw.put j hj p' t' hp' ht'
      have hno : ∀ r, r < 3 → ¬ inR (plcA B0 G p) b (o + r) := fun r hr hi => hne j hj p' hp' (range_key h hx (List.mem_of_getElem? hp') hpm ⟨o, h1, by omega, by omega⟩ hi)
      exact ⟨b, o, a', cap', h1, h2, (hout b o (hno 0 (by omega))).trans h3, (hout b (o + 1) (hno 1 (by omega))).trans h4, (hout b (o + 2) (hno 2 (by omega))).trans h5⟩
    · rw [hp] at hp'
      injection hp' with hp'
      subst hp'
      rw [ht] at ht'
      injection ht' with ht'
      subst ht'
      exact ⟨_, _, a, cap, rfl, hty, hput 0 (by omega), hput 1 (by omega), hput 2 (by omega)⟩
end
end Go.Proofs.YtmmhpibkjdlkgaaGreat
namespace Go.Proofs.YtmmhpibkjdlkgaaGreat
open Go Go.RowKit Go.Shelf
open Ex (E)

theorem map_inj_of {α β : Type} (f : α → β) : ∀ {l : List α}, (l.map f).Nodup → ∀ x ∈ l, ∀ y ∈ l, f x = f y → x = y
  | [], _, x, hx, _, _, _ => by cases hx
  | a :: r, hn, x, hx, y, hy, he => by
    rw [List.map_cons, List.nodup_cons] at hn
    rcases List.mem_cons.1 hx with hxa | hx
    · rcases List.mem_cons.1 hy with hya | hy
      · rw [hxa, hya]
      · exact absurd (List.mem_map.2 ⟨y, hy, by rw [← he, hxa]⟩) hn.1
    · rcases List.mem_cons.1 hy with hya | hy
      · exact absurd (List.mem_map.2 ⟨x, hx, by rw [he, hya]⟩) hn.1
      · exact map_inj_of f hn.2 x hx y hy he
section
variable {B0 n0 base : Nat} {G : List Nat → Nat} {w0 V V1 : World} {e0 : E} {xs : List (Vi (E × List Nat))} {l : List Tp.T}
theorem Wrt.node (hw : Wrt n0 B0 w0 V1 G e0 l xs (ak e0 []).length V) (h : Cop n0 B0 base w0 e0 G xs V1) (hx : xs.map Vi.key = Px.pre e0 [] 1) {k : (E × List Nat) × Nat × Nat} (hk : k ∈ Px.pre e0 [] 1) : NBase (fun b => b < n0 ∨ Used B0 G xs b) B0 G V k.1 := by
  obtain ⟨y, hy, hyt⟩ := node_vis hx hk
  have hkn := h.kn y hy
  obtain ⟨ka, kc, k1, k2, k3, k4⟩ := h.done y hy
  obtain ⟨s, hs, hc⟩ := h.lay _ hkn
  rw [hyt] at hkn k1 k2 k4 hs hc
  have hub : Used B0 G xs (plc B0 G k.1.2).1 := used_of hkn
  have hkeep : ∀ j, j < 16 → (∀ p ∈ ak e0 [], ¬ inR (plcA B0 G p) (plc B0 G k.1.2).1 ((plc B0 G k.1.2).2 + j)) → ∀ v, V1.cell? ⟨(plc B0 G k.1.2).1, (plc B0 G k.1.2).2 + j, none⟩ = some v → V.cell? ⟨(plc B0 G k.1.2).1, (plc B0 G k.1.2).2 + j, none⟩ = some v := fun j _ hno v hv =>
    (hw.rest _ _ hub (fun _ _ p hp => hno p (List.mem_of_getElem? hp))).trans hv
  have hfar : ∀ j, j < 16 → (j < 8 ∨ 14 ≤ j) → ∀ v, V1.cell? ⟨(plc B0 G k.1.2).1, (plc B0 G k.1.2).2 + j, none⟩ = some v → V.cell? ⟨(plc B0 G k.1.2).1, (plc B0 G k.1.2).2 + j, none⟩ = some v := fun j hj hj2 =>
    hkeep j hj (fun p hp hi => by have := (key_of_range h hx hp hkn hj hi).2; omega)
  have hmine : ∀ p ∈ ak e0 [], p.1 = k.1.2 → (p.2 = 8 ∧ Tp.none k.1.1.a = false) ∨ (p.2 = 11 ∧ Tp.none k.1.1.b = false) := fun p hp hpq => by
    obtain ⟨u, _, ⟨k', hk', rfl⟩, h1, h2⟩ := key_known h hx hp
    have e := map_inj_of (fun k : (E × List Nat) × Nat × Nat => k.1.2) (Px.pre_nodup e0 [] 1) k' hk' k hk (h1.symm.trans hpq)
    rw [e] at h2; exact h2
  have hta : Tp.none k.1.1.a = true → ∀ j, 8 ≤ j → j < 11 → ∀ v, V1.cell? ⟨(plc B0 G k.1.2).1, (plc B0 G k.1.2).2 + j, none⟩ = some v → V.cell? ⟨(plc B0 G k.1.2).1, (plc B0 G k.1.2).2 + j, none⟩ = some v := fun hn j h1 h2 =>
    hkeep j (by omega) (fun p hp hi => by
      obtain ⟨e1, e2⟩ := key_of_range h hx hp hkn (by omega) hi
      rcases hmine p hp e1 with ⟨_, e3⟩ | ⟨e3, _⟩
      · rw [hn] at e3; cases e3
      · omega)
  have htb : Tp.none k.1.1.b = true → ∀ j, 11 ≤ j → j < 14 → ∀ v, V1.cell? ⟨(plc B0 G k.1.2).1, (plc B0 G k.1.2).2 + j, none⟩ = some v → V.cell? ⟨(plc B0 G k.1.2).1, (plc B0 G k.1.2).2 + j, none⟩ = some v := fun hn j h1 h2 =>
    hkeep j (by omega) (fun p hp hi => by
      obtain ⟨e1, e2⟩ := key_of_range h hx hp hkn (by omega) hi
      rcases hmine p hp e1 with ⟨e3, _⟩ | ⟨_, e3⟩
      · omega
      · rw [hn] at e3; cases e3)
  have hup : ∀ b, LT n0 b → (b < n0 ∨ Used B0 G xs b) := fun b hb => .inl hb
  refine ⟨hs.i64, hfar 0 (by omega) (.inl (by omega)) _ (hc 0 _ rfl (.inl (by omega))), hfar 1 (by omega) (.inl (by omega)) _ (hc 1 _ rfl (.inl (by omega))), hfar 2 (by omega) (.inl (by omega)) _ (hc 2 _ rfl (.inl (by omega))),
    hfar 3 (by omega) (.inl (by omega)) _ (hc 3 _ rfl (.inl (by omega))), hfar 4 (by omega) (.inl (by omega)) _ (hc 4 _ rfl (.inl (by omega))), hfar 5 (by omega) (.inl (by omega)) _ (hc 5 _ rfl (.inl (by omega))), hfar 6 (by omega) (.inl (by omega)) _ (hc 6 _ rfl (.inl (by omega))), hfar 7 (by omega) (.inl (by omega)) _ (hc 7 _ rfl (.inl (by omega))), fun hn => ?_, fun hn => ?_, ?_, ?_⟩
  · exact NodeAt.mk' (hs.ta.below hw.low (fun _ h => h) hup) (hta hn 8 (by omega) (by omega) _ (hc 8 _ rfl (.inl (by omega)))) (hta hn 9 (by omega) (by omega) _ (hc 9 _ rfl (.inl (by omega)))) (hta hn 10 (by omega) (by omega) _ (hc 10 _ rfl (.inl (by omega))))
  · exact NodeAt.mk' (hs.tb.below hw.low (fun _ h => h) hup) (htb hn 11 (by omega) (by omega) _ (hc 11 _ rfl (.inl (by omega)))) (htb hn 12 (by omega) (by omega) _ (hc 12 _ rfl (.inl (by omega)))) (htb hn 13 (by omega) (by omega) _ (hc 13 _ rfl (.inl (by omega))))
  · exact ⟨s.pa, s.pc, hfar 14 (by omega) (.inr (by omega)) _ (hc 14 _ rfl (.inl (by omega))), hs.lp.1, hs.lp.2, PKids.mono (fun b o h => hw.low.cell (p := ⟨b, o, none⟩) h) hup _ _ hs.ps⟩
  · exact ⟨ka, kc, hfar 15 (by omega) (.inr (by omega)) _ k1, k2.1, k2.2, k3, fun hne => ⟨k4 hne, .inr (.inr ⟨y, hy, by rw [hyt]; exact hne, by rw [hyt]⟩)⟩⟩
/-- **What lies at the end is the expression with these types.** -/
theorem Wrt.ends (hw : Wrt n0 B0 w0 V1 G e0 l xs (ak e0 []).length V) (h : Cop n0 B0 base w0 e0 G xs V1) (hx : xs.map Vi.key = Px.pre e0 [] 1) (hl : l.length = (Ex.anns e0).length) : ENode (fun b => b < n0 ∨ Used B0 G xs b) V (Ex.wth e0 l) B0 0 := by
  refine wth_lies (Gd := fun b => b < n0 ∨ Used B0 G xs b) (B0 := B0) (G := G) e0 [] 1 l (fun k hk => hw.node h hx hk) fun j p hp => ?_
  have hj := (List.getElem?_eq_some_iff.1 hp).1
  have hjl : j < l.length := by rw [hl, ← ak_len e0 []]; exact hj
  obtain ⟨b, o, a, cap, h1, h2, h3, h4, h5⟩ := hw.put j hj p l[j] hp (List.getElem?_eq_getElem hjl)
  refine ⟨l[j], List.getElem?_eq_getElem hjl, ?_⟩
  unfold plcA at h1
  injection h1 with h1
  injection h1 with e1 e2
  unfold APut
  rw [e1, e2]
  exact NodeAt.mk' (h2.below hw.low (fun _ h => h) (fun b hb => .inl hb)) h3 h4 h5
end
/-- A statement of which is known what it leaves. -/
theorem wpIn_mid {F : Fence} {rm : Nat} {P : Program} {s : Code} {K : Act → World → Prop} {Q' : Exit → Act → World → Prop} {a : Act} {w : World} (R : Act → World → Prop)
    (first : s.wpIn F rm P (Exit.then R (fun _ _ _ => False)) a w) (rest : ∀ a' w', R a' w' → K a' w') : s.wpIn F rm P (Exit.then K Q') a w := by
  refine wpIn_mono first ?_
  intro e a' w' hq
  cases e with
  | normal => exact rest _ _ hq
  | exit id => exact hq.elim
  | goto l => exact hq.elim
  | ret => exact hq.elim
  | panic ch => exact hq.elim
  | outgrown => exact hq.elim
end Go.Proofs.YtmmhpibkjdlkgaaGreat
namespace Go.Proofs.YtmmhpibkjdlkgaaGreat
open Go Go.RowKit Go.Shelf
open Ex (E)

section
variable {n0 B0 base : Nat} {w0 : World} {e0 : E}
/-- Where a visit comes from. -/
def OkC (B0 : Nat) (e0 : E) (M : Nat → Prop) (pre : List (Vi (E × List Nat))) (x : Vi (E × List Nat)) (V : World) : Prop :=
  (x.t = (e0, []) ∧ x.p = some ⟨B0, 0, none⟩) ∨ ∃ y ∈ pre, ∃ i, ∃ h : i < y.t.1.kids.length, x.t = (y.t.1.kids[i], i :: y.t.2) ∧ ∃ b o g n c, y.p = some ⟨b, o, none⟩ ∧ (V.cell? ⟨b, o + 15, none⟩ = some (.slice (some ⟨g, 0, none⟩) n c) ∧ b < V.heap.size ∧ ¬ M b) ∧ x.p = some ⟨g, i * 16, none⟩
theorem ab_okC (base' : Nat) (pre : List (Vi (E × List Nat))) (x : Vi (E × List Nat)) : Ab base' fun M V => OkC B0 e0 M pre x V := by
  rintro M M' A B (h | ⟨y, hy, i, hi, h1, b, o, g, n, c, h2, ⟨h3, h4, h5⟩, h6⟩) _ hT hM'
  · exact .inl h
  · refine .inr ⟨y, hy, i, hi, h1, b, o, g, n, c, h2, ⟨(World.cell?_of_block (a := ⟨b, o + 15, none⟩) (hT.block b h4 h5)).trans h3, Nat.lt_of_lt_of_le h4 hT.size, fun hm => ?_⟩, h6⟩
    rcases (hM' b hm).1 with h | h
    · exact h5 h
    · omega
/-- What the first loop keeps. -/
def CopI (n0 B0 base : Nat) (w0 : World) (e0 : E) (M : Nat → Prop) (pre : List (Vi (E × List Nat))) (V : World) : Prop := ∃ G, Cop n0 B0 base w0 e0 G pre V ∧ ∀ k, Used B0 G pre k → ¬ M k
theorem ab_copI {base' : Nat} (hn : n0 ≤ base') (pre : List (Vi (E × List Nat))) : Ab base' fun M V => CopI n0 B0 base w0 e0 M pre V := by
  rintro M M' A B ⟨G, h, hu⟩ hM hT hM'
  refine ⟨G, h.same (hT.below h.low (fun k hk => Nat.le_trans hn (hM k hk).1) (by have := h.b0; omega)) hT.size (fun k hk => hT.block k (h.lt hk).2 (hu k hk)), fun k hk hm => ?_⟩
  rcases (hM' k hm).1 with h1 | h1
  · exact hu k hk h1
  · have := (h.lt hk).2; omega
theorem ok_plc {G : List Nat → Nat} {M : Nat → Prop} {pre : List (Vi (E × List Nat))} {x : Vi (E × List Nat)} {V : World} (h : Cop n0 B0 base w0 e0 G pre V) (hok : OkC B0 e0 M pre x V) : Known e0 pre x.t ∧ x.p = some ⟨(plc B0 G x.t.2).1, (plc B0 G x.t.2).2, none⟩ := by
  rcases hok with ⟨h1, h2⟩ | ⟨y, hy, i, hi, h1, b, o, g, n, c, h2, ⟨h3, _, _⟩, h6⟩
  · exact ⟨.inl h1, by rw [h1]; exact h2⟩
  · refine ⟨.inr ⟨y, hy, i, hi, h1⟩, ?_⟩
    obtain ⟨a, cap, d1, _, _, d4⟩ := h.done y hy
    have hp := h.pl y hy
    rw [h2] at hp
    injection hp with hp
    injection hp with e1 e2
    rw [← e1, ← e2, h3] at d1
    injection d1 with d1
    injection d1 with d1 _ _
    rw [d4 (kids_ne hi)] at d1
    injection d1 with d1
    injection d1 with d1 _
    rw [h6, h1, d1]; rfl
theorem next_cop {M : Nat → Prop} {pre : List (Vi (E × List Nat))} {V : World} (h : CopI n0 B0 base w0 e0 M pre V) {y : Vi (E × List Nat)} (hy : y ∈ pre) : NextN 51 Px.shape V y fun x => OkC B0 e0 M pre x V := fun i hi => by
  obtain ⟨G, hC, hu⟩ := h
  obtain ⟨a, cap, d1, d2, d3, d4⟩ := hC.done y hy
  have hp := hC.pl y hy
  have hcall := exprKid_any (plc B0 G y.t.2).1 (plc B0 G y.t.2).2 y.t.1.kids.length cap i a V d1 (fun h0 => ⟨_, _, d4 (by intro e; rw [e] at h0; simp at h0)⟩)
  dsimp only
  rw [hp]
  refine hcall.mono ?_
  rintro e W' ⟨(⟨h1, b', o', e1, rfl⟩ | ⟨h1, rfl⟩), rfl⟩
  · have hz : i < (Px.shape.kids y.t).length := by show i < (Px.kidsFrom y.t.1.kids y.t.2 0).length; rw [Px.kidsFrom_len]; exact h1
    have e2 := d4 (kids_ne h1)
    rw [e1] at e2
    injection e2 with e2
    injection e2 with e3 e4
    refine ⟨rfl, .inl ⟨hz, some ⟨b', o' + i * 16, none⟩, rfl, .inr ⟨y, hy, i, h1, ?_, (plc B0 G y.t.2).1, (plc B0 G y.t.2).2, G y.t.2, y.t.1.kids.length, cap, hp, ⟨?_, (hC.lt (used_of (hC.kn y hy))).2, hu _ (used_of (hC.kn y hy))⟩, ?_⟩⟩⟩
    · exact (Px.kidsFrom_get y.t.1.kids y.t.2 0 i h1 hz).trans (by rw [Nat.zero_add])
    · rw [d1, e1, e3, e4]
    · show some (Addr.mk b' (o' + i * 16) none) = _
      rw [e3, e4, Nat.zero_add]
  · refine ⟨rfl, .inr ⟨?_, none, rfl⟩⟩
    show ¬ i < (Px.kidsFrom y.t.1.kids y.t.2 0).length
    rw [Px.kidsFrom_len]; exact h1
theorem fresh_path {pre : List (Vi (E × List Nat))} {x : Vi (E × List Nat)} (hok : noOk Px.shape (e0, []) pre x) : x.t.2 ∉ paths pre := by
  obtain ⟨⟨rest, hr⟩, _⟩ := hok
  rw [Px.nKeys_shape] at hr
  have hn := Px.pre_nodup e0 [] 1
  rw [← show pre.map Vi.key ++ x.key :: rest = Px.pre e0 [] 1 from hr, List.map_append, List.nodup_append] at hn
  intro hm
  unfold paths at hm
  obtain ⟨y, hy, e⟩ := List.mem_map.1 hm
  exact hn.2.2 _ (List.mem_map.2 ⟨y.key, List.mem_map.2 ⟨y, hy, rfl⟩, rfl⟩) _ (List.mem_map.2 ⟨x.key, by simp, rfl⟩) e
theorem all_keys {xs : List (Vi (E × List Nat))} (h : noAll Px.shape (e0, []) xs) : xs.map Vi.key = Px.pre e0 [] 1 := by
  have := Px.nKeys_shape (e0, [])
  exact (show xs.map Vi.key = nKeys Px.shape (e0, []) from h).trans this
/-- A node in the making of which the kids' row is asked for. -/
theorem raw_kids {G : List Nat → Nat} {pre : List (Vi (E × List Nat))} {x : Vi (E × List Nat)} {V : World} (h : Cop n0 B0 base w0 e0 G pre V) (hk : Known e0 pre x.t) (hnp : x.t.2 ∉ paths pre) :
    ∃ ka kc, V.cell? ⟨(plc B0 G x.t.2).1, (plc B0 G x.t.2).2 + 15, none⟩ = some (.slice ka x.t.1.kids.length kc) ∧ EKids (LT n0) w0 x.t.1.kids ka := by
  obtain ⟨s, hs, hc⟩ := h.lay _ hk
  exact ⟨s.ka, s.kc, hc 15 _ rfl (.inr hnp), hs.ks⟩
/-- What the second loop keeps. -/
theorem ab_wrt {base' : Nat} {V1 : World} {G : List Nat → Nat} {l : List Tp.T} {xs : List (Vi (E × List Nat))} (hn : n0 ≤ base') (h : Cop n0 B0 base w0 e0 G xs V1) (hx : xs.map Vi.key = Px.pre e0 [] 1) (k : Nat) : Ab base' fun M V => Wrt n0 B0 w0 V1 G e0 l xs k V ∧ ∀ k, Used B0 G xs k → ¬ M k := by
  rintro M M' A B ⟨hw, hu⟩ hM hT hM'
  refine ⟨hw.same h hx (hT.below hw.low (fun k hk => Nat.le_trans hn (hM k hk).1) (by have := h.b0; have := hw.size; omega)) hT.size (fun k hk => hT.block k (Nat.lt_of_lt_of_le (h.lt hk).2 hw.size) (hu k hk)), fun k hk hm => ?_⟩
  rcases (hM' k hm).1 with h1 | h1
  · exact hu k hk h1
  · have := (h.lt hk).2; have := hw.size; omega
end
end Go.Proofs.YtmmhpibkjdlkgaaGreat
namespace Go.Proofs.YtmmhpibkjdlkgaaGreat
open Go Go.RowKit Go.Shelf
open Ex (E)

section
variable {B0 n0 base k : Nat} {G : List Nat → Nat} {w0 U V1 : World} {e0 : E} {xs : List (Vi (E × List Nat))} {l : List Tp.T}
theorem none_written (hw : Wrt n0 B0 w0 V1 G e0 l xs k U) (h : Cop n0 B0 base w0 e0 G xs V1) (hx : xs.map Vi.key = Px.pre e0 [] 1) (hl : ∀ t ∈ l, Tp.none t = false) (hlen : l.length = (ak e0 []).length)
    {t : E × List Nat} (ht : ∃ q ∈ Px.pre e0 [] 1, q.1 = t) {f : Nat} {v : Bool} (hf : f = 8 ∨ f = 11) (hv : (t.2, f) ∈ ak e0 [] → v = false) (hn : NoneAt V1 (plc B0 G t.2).1 ((plc B0 G t.2).2 + f) v) : NoneAt U (plc B0 G t.2).1 ((plc B0 G t.2).2 + f) v := by
  obtain ⟨q, hq, rfl⟩ := ht
  obtain ⟨y, hy, hyt⟩ := node_vis hx hq
  have hkn : Known e0 xs q.1 := by rw [← hyt]; exact h.kn y hy
  by_cases hj : ∃ j, j < k ∧ (ak e0 [])[j]? = some (q.1.2, f)
  · obtain ⟨j, hjk, hj⟩ := hj
    have hjl : j < l.length := by rw [hlen]; exact (List.getElem?_eq_some_iff.1 hj).1
    obtain ⟨b, o, a, cap, h1, h2, h3, h4, h5⟩ := hw.put j hjk _ l[j] hj (List.getElem?_eq_getElem hjl)
    unfold plcA at h1
    injection h1 with h1
    injection h1 with e1 e2
    replace e1 : (plc B0 G q.1.2).1 = b := e1
    replace e2 : (plc B0 G q.1.2).2 + f = o := e2
    rw [e1, e2]
    exact ⟨l[j], a, cap, h3, h4, h5, by rw [hl _ (List.getElem_mem hjl), hv (List.mem_of_getElem? hj)]⟩
  · have hkeep : ∀ r, r < 3 → U.cell? ⟨(plc B0 G q.1.2).1, (plc B0 G q.1.2).2 + (f + r), none⟩ = V1.cell? ⟨(plc B0 G q.1.2).1, (plc B0 G q.1.2).2 + (f + r), none⟩ := fun r hr =>
      hw.rest _ _ (used_of hkn) fun j hjk p hp hi => by
        obtain ⟨e1, e2⟩ := key_of_range h hx (List.mem_of_getElem? hp) hkn (by rcases hf with rfl | rfl <;> omega) hi
        refine hj ⟨j, hjk, ?_⟩
        rw [hp]
        congr 1
        rw [Prod.ext_iff]
        exact ⟨e1, by show p.2 = f; omega⟩
    obtain ⟨t, a, cap, h0, h1, h2, h3⟩ := hn
    exact ⟨t, a, cap, (hkeep 0 (by omega)).trans h0, (hkeep 1 (by omega)).trans h1, (hkeep 2 (by omega)).trans h2, h3⟩
/-- A walk over the annotations goes on while they are written. -/
theorem Wrt.all (hw : Wrt n0 B0 w0 V1 G e0 l xs k U) (h : Cop n0 B0 base w0 e0 G xs V1) (hx : xs.map Vi.key = Px.pre e0 [] 1) (hl : ∀ t ∈ l, Tp.none t = false) (hlen : l.length = (ak e0 []).length) : AllAt V1.heap.size (bld B0 G e0 []) U := by
  intro d hd
  have hA := h.all hx d hd
  rw [bld_pre] at hd
  obtain ⟨q, hq, rfl⟩ := List.mem_map.1 hd
  obtain ⟨y, hy, hyt⟩ := node_vis hx hq
  have hkn : Known e0 xs q.1 := by rw [← hyt]; exact h.kn y hy
  obtain ⟨a1, ⟨a, cap, a2, a3⟩, a4, a5⟩ := hA
  have hmine : ∀ f, (q.1.2, f) ∈ ak e0 [] → (f = 8 ∧ Tp.none q.1.1.a = false) ∨ (f = 11 ∧ Tp.none q.1.1.b = false) := fun f hp => by
    obtain ⟨u, _, ⟨k', hk', rfl⟩, h1, h2⟩ := key_known h hx hp
    have e := map_inj_of (fun k : (E × List Nat) × Nat × Nat => k.1.2) (Px.pre_nodup e0 [] 1) k' hk' q hq h1.symm
    rw [e] at h2; exact h2
  refine ⟨a1, ⟨a, cap, ?_, a3⟩, ?_, ?_⟩
  · replace a2 : V1.cell? ⟨(bld B0 G q.1.1 q.1.2).b, (bld B0 G q.1.1 q.1.2).o + 15, none⟩ = some (.slice a (bld B0 G q.1.1 q.1.2).l.length cap) := a2
    show U.cell? ⟨(bld B0 G q.1.1 q.1.2).b, (bld B0 G q.1.1 q.1.2).o + 15, none⟩ = some (.slice a (bld B0 G q.1.1 q.1.2).l.length cap)
    rw [bld_b, bld_o] at a2 ⊢
    rw [← a2]
    exact hw.rest _ _ (used_of hkn) fun j _ p hp hi => by have := (key_of_range h hx (List.mem_of_getElem? hp) hkn (by omega) hi).2; omega
  · replace a4 : NoneAt V1 (bld B0 G q.1.1 q.1.2).b ((bld B0 G q.1.1 q.1.2).o + 8) (Tp.none (bld B0 G q.1.1 q.1.2).e.a) := a4
    show NoneAt U (bld B0 G q.1.1 q.1.2).b ((bld B0 G q.1.1 q.1.2).o + 8) (Tp.none (bld B0 G q.1.1 q.1.2).e.a)
    rw [bld_b, bld_o, bld_e] at a4 ⊢
    exact none_written hw h hx hl hlen ⟨q, hq, rfl⟩ (.inl rfl) (fun hp => by rcases hmine 8 hp with h | h; · exact h.2
                                                                             · omega) a4
  · replace a5 : NoneAt V1 (bld B0 G q.1.1 q.1.2).b ((bld B0 G q.1.1 q.1.2).o + 11) (Tp.none (bld B0 G q.1.1 q.1.2).e.b) := a5
    show NoneAt U (bld B0 G q.1.1 q.1.2).b ((bld B0 G q.1.1 q.1.2).o + 11) (Tp.none (bld B0 G q.1.1 q.1.2).e.b)
    rw [bld_b, bld_o, bld_e] at a5 ⊢
    exact none_written hw h hx hl hlen ⟨q, hq, rfl⟩ (.inr rfl) (fun hp => by rcases hmine 11 hp with h | h; · omega
                                                                             · exact h.2) a5
/-- The cells of the next annotation are there. -/
theorem Wrt.there (hw : Wrt n0 B0 w0 V1 G e0 l xs k U) (h : Cop n0 B0 base w0 e0 G xs V1) (hx : xs.map Vi.key = Px.pre e0 [] 1) {p : List Nat × Nat} (hp : (ak e0 [])[k]? = some p) : ∀ r, r < 3 → ∃ v, U.cell? ⟨(plc B0 G p.1).1, (plc B0 G p.1).2 + p.2 + r, none⟩ = some v := by
  intro r hr
  have hpm := List.mem_of_getElem? hp
  obtain ⟨u, hu, _, hpu, hpf⟩ := key_known h hx hpm
  have hnd := ak_nodup e0 []
  have hne : ∀ j, j < k → ∀ p', (ak e0 [])[j]? = some p' → p' ≠ p := fun j hj p' hp' e => by
    subst e
    obtain ⟨h1, h2⟩ := List.getElem?_eq_some_iff.1 hp
    obtain ⟨h3, h4⟩ := List.getElem?_eq_some_iff.1 hp'
    exact List.pairwise_iff_getElem.1 (show List.Pairwise (fun a b => a ≠ b) (ak e0 []) from hnd) j k h3 h1 hj (h4.trans h2.symm)
  rw [hw.rest _ _ (used_key h hx hpm) (fun j hj p' hp' hi => hne j hj p' hp' (range_key h hx (List.mem_of_getElem? hp') hpm hi ⟨_, rfl, by omega, by omega⟩))]
  obtain ⟨s, _, hc⟩ := h.lay u hu
  have hf : p.2 + r < 15 ∧ p.2 + r < (evCells u.1 s).length := by simp only [evCells, List.length_cons, List.length_nil]; rcases hpf with hpf | hpf <;> omega
  have := hc (p.2 + r) _ (List.getElem?_eq_getElem hf.2) (.inl hf.1)
  exact ⟨_, by rw [hpu, show (plc B0 G u.2).2 + p.2 + r = (plc B0 G u.2).2 + (p.2 + r) from by omega]; exact this⟩
/-- Which annotation is next. -/
theorem next_key {pre : List (Option Addr)} {x : Option Addr} (hok : ∃ rest, pre ++ x :: rest = Dx.annsAll (bld B0 G e0 [])) : ∃ p, (ak e0 [])[pre.length]? = some p ∧ x = plcA B0 G p := by
  obtain ⟨rest, hr⟩ := hok
  rw [annsAll_bld] at hr
  have h1 : ((ak e0 []).map (plcA B0 G))[pre.length]? = some x := by rw [← hr, List.getElem?_append_right (Nat.le_refl _), Nat.sub_self]; rfl
  rw [List.getElem?_map] at h1
  obtain ⟨p, h2, h3⟩ := Option.map_eq_some_iff.1 h1
  exact ⟨p, h2, h3.symm⟩
end
end Go.Proofs.YtmmhpibkjdlkgaaGreat
