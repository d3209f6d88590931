/- slices.Clone at bytes: a row of its own with the same bytes. The bound is the form's own reach (2^47 bytes). -/
import Derived.Test.YtadgbkjjeigpjaaDoorRows
import Derived.Test.YtadgbkjjeigpjaaDoorMem
namespace Go.Proofs.YtadgbkjjeigpjaaDoor
open Go.RowKit


set_option maxHeartbeats 1000000 in
theorem clone (v : Value) (zs : List Int) (w : World) (hb : Bytes w v zs) (hl : zs.length ≤ 140737488355328) :
    Calls Tryd.prog 29 #[v] w fun e w' => ∃ v', e = .returned v' ∧ w'.ownsRow w.heap.size 5 1 v' zs.length (zs.map (Value.int .u8)) ∧ Below w.heap.size w w' := by
  have hnil := fun (w : World) (a : Option Addr) (n c : Nat) => Lib.run_eql_slice_nil (P := Tryd.prog) w 23 5 a n c 0 0 Tryd.underlying23
  obtain ⟨i0, hi, hz0, hz1, hz2⟩ := info_parts info_u8
  obtain ⟨ao, cap, rfl, h1, h2, h3, h4, h5⟩ := hb
  cases ao with
  | none =>
    have : cap = 0 := h3 rfl
    subst this
    have hz : zs = [] := List.eq_nil_of_length_eq_zero (by omega)
    subst hz
    go_enter Tryd.func29, Tryd.ntmps29
    go_wp2
    go_ret
    exact ⟨_, rfl, World.ownsRow_nil _ _ _ _, Below.refl _ _⟩
  | some x =>
    have h8 := news_bytes (h5 x rfl)
    have H8 := Lib.hid h8
    clear h5 h3 h8
    go_enter Tryd.func29, Tryd.ntmps29
    go_wp2_with (at_builtin; refine wpList_append_own _ rfl (.tmp 5) (.tmp 6) 23 rfl w.heap.size 5 i0 (.int .u8 0) 1 1 Tryd.underlying23 hi hz0 hz1 hz2 rfl (by decide) (.slice (some ⟨w.heap.size, 0, none⟩) 0 0) 0 [] rfl (by exact World.ownsRow_made _ #[] 0 (Nat.le_refl _) (Nat.zero_le _) rfl) x zs.length cap (zs.map (Value.int .u8)) rfl (by simp) (news_alloc _ H8.out) (ints_oneCell _ _) (by omega) (by omega) (by simp) ?next)
    case next =>
      intro v' w' hown hgrow _
      have hbel : Below w.heap.size w w' := ((Below.refl _ _).alloc (Nat.le_refl _) _).grown hgrow (by simp) (fun k h => by simp [Value.ownBlock] at h; omega)
      clear hgrow
      go_wp2
      go_ret
      exact ⟨_, rfl, by simpa using hown, hbel⟩
end Go.Proofs.YtadgbkjjeigpjaaDoor
