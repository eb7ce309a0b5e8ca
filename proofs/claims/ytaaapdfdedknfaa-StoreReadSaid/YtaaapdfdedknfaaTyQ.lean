/- typ.nodes; typ.Size, typ.Depth. -/
import Derived.Test.YtaaapdfdedknfaaTyO
namespace Go.Proofs.Ytaaapdfdedknfaa
open Go Go.RowKit Go.Shelf
open Tp (T)

attribute [local go_sem] Oper.semAt_some

/-- The iterator's contract. -/
theorem nodes_seq (t : T) (hsz : Tp.size t ≤ 10000) (n₀ Bt : Nat) (a0 : Option Addr) (cap0 : Nat) (w : World) (hn₀ : n₀ ≤ w.heap.size) (hty : TyAt (LT n₀) w t a0 cap0) (hb : w.heap[Bt]? = some (.cells #[.int .i64 t.kind, .int .i64 t.num, .slice a0 t.kids.length cap0] 26)) :
    SeqMine Try.prog 139 #[.pointer (some ⟨Bt, 0, none⟩)] ndEnc (ndAll t) (ndOk t) n₀ w := fun l J Jx W hW hJ hJx hY h0 => by
  have hlt : Bt < w.heap.size := (Array.getElem?_eq_some_iff.1 hb).1
  have hb' := hW.block Bt hlt
  exact callsIn_wide.1 (nodes_walk t hsz n₀ Bt l a0 cap0 J Jx W hJ hJx hY h0 (Nat.le_trans hn₀ hW.size) (hty.below hW (fun b h => Nat.lt_of_lt_of_le h hn₀) (fun _ h => h)) (cell_box hb hb' rfl) (cell_box hb hb' rfl) (cell_box hb hb' rfl))

theorem nd_len {t : T} {pre : List Nd} {x : Nd} (h : ndOk t pre x) (ht : Tp.size t ≤ 10000) : (pre.length : Int) ≤ 10000 := by
  obtain ⟨⟨rest, hr⟩, _⟩ := h
  have := congrArg List.length hr
  rw [List.length_append, List.length_map, List.length_cons, Tp.pre_length] at this
  omega

set_option maxHeartbeats 1000000 in
theorem nodes_any (t : T) (a : Option Addr) (cap : Nat) (w : World) :
    Calls Try.prog 125 #[tv t a cap] w fun e w' => e = .returned (.func (.func 139) #[] #[.pointer (some ⟨w.heap.size, 0, none⟩)]) ∧ w' = w.alloc (.cells #[.int .i64 t.kind, .int .i64 t.num, .slice a t.kids.length cap] 26) := by
  unfold tv
  go_enter Try.func125, Try.ntmps125
  go_wp2
  go_ret
  exact ⟨rfl, rfl⟩

end Go.Proofs.Ytaaapdfdedknfaa
