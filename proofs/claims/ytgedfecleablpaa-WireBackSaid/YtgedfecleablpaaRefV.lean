/- The document's own writer: Bytes, and its length. No condition beyond a writer that was made. -/
import Derived.Test.YtgedfecleablpaaRefW
namespace Go.Proofs.Ytgedfecleablpaa
open Go.RowKit

set_option maxHeartbeats 1000000 in
theorem refBytes (wb : Nat) (sv : Value) (most : Nat) (bs : List Int) (v : Value) (zs : List Int) (w : World) (h : Wf w wb sv most bs) (hb : Bytes w v zs) :
    Calls Try.prog 25 #[.pointer (some ⟨wb, 0, none⟩), v] w fun e w' =>
      e = .returned (.int .i64 (wrErr true zs.length ((most : Int) - bs.length))) ∧ WfTo w wb sv most (bs ++ addB zs (wrErr true zs.length ((most : Int) - bs.length))) w' := by
  obtain ⟨i0, hi, hz0, hz1, hz2⟩ := info_parts info_u8
  have hbyt : Bytish zs := by obtain ⟨_, _, _, _, _, _, h, _⟩ := hb; exact h
  obtain ⟨ao, cap, hv, hcap, hcm, hn, _, hcells⟩ := id hb
  have hfit := h.fit
  have hlim := h.lim
  have h0 := cell_blk h.blk 0
  have h1 := cell_blk h.blk 1
  have f0 := frozen_blk h.blk 0
  obtain ⟨ao0, cap0, rfl, hc1, hc2⟩ := slice_of_owns h.own
  simp at h0 h1
  have hcap' : zs.length ≤ 9223372036854775807 := by unfold maxLen at hcm; omega
  unfold addB
  have Hb := Lib.hid hb
  clear hb hcells
  subst hv
  by_cases he : wrErr true zs.length ((most : Int) - bs.length) = 0
  · obtain ⟨_, hr⟩ := wrErr_zero he
    simp only [he, if_true]
    clear he
    go_enter Try.func25, Try.ntmps25
    go_wp2
    go_quiet (fail)
    go_wp2_with (at_builtin; refine wpList_append_src rfl (.tmp 22) (.tmp 23) 22 rfl 5 i0 (.int .u8 0) 1 1 Try.underlying22 hi hz0 hz1 hz2 rfl (by decide) 0 (.slice ao0 bs.length cap0) bs.length (bs.map (Value.int .u8)) rfl (by exact h.own) (Nat.zero_le _) (.slice ao zs.length cap) zs.length (zs.map (Value.int .u8)) rfl (by exact Src.of_bytes Hb.out) (by unfold maxLen; omega) (by omega) ?next)
    case next =>
      intro v' w1 hown1 hgrow1 hnew1
      obtain ⟨ao', cap', rfl, _, _⟩ := slice_of_owns hown1
      have R := (h.only (Only.drewN (Only.refl (fun _ => False) w) _) (fun h => h) (fun _ _ h => h)).more hbyt (by omega) hown1 hgrow1 hnew1
      have hb2 : w1.heap[wb]? = some (.cells #[.slice ao0 bs.length cap0, .int .i64 most] 61 (0, 0)) := by
        rw [hgrow1.block wb (by exact h.lt.1) (fun e => h.apart e.symm)]
        exact h.blk
      have h01 := cell_blk hb2 0
      have f01 := frozen_blk hb2 0
      simp at h01
      have R2 := WfTo.trans (Only.drewN (Only.refl (WrS wb (.slice ao0 bs.length cap0)) w) _) (fun k hk => .inl hk) R
      clear R h0 f0 h1 hown1 hgrow1 hnew1 hb2
      go_wp2
      go_ret
      exact ⟨rfl, R2⟩
  · have hr : wrErr true zs.length ((most : Int) - bs.length) = 2 := by
      unfold wrErr at he ⊢
      simp only [Bool.true_eq_false, if_false] at he ⊢
      split at he
      · rename_i hlt; rw [if_pos hlt]
      · exact absurd rfl he
    have hlt : (most : Int) - bs.length < zs.length := by
      unfold wrErr at hr
      simp only [Bool.true_eq_false, if_false] at hr
      split at hr
      · assumption
      · cases hr
    rw [if_neg he, hr]
    clear he hr
    go_enter Try.func25, Try.ntmps25
    go_wp2
    go_quiet (fail)
    go_wp2
    go_ret
    exact ⟨rfl, WfTo.of_drawn' h ⟨_, rfl⟩⟩
end Go.Proofs.Ytgedfecleablpaa
