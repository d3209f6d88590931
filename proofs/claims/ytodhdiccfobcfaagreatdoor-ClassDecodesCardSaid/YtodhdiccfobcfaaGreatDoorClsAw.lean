/- What stage 5's laws share: the program computes at all. No condition but that the library's tables are laid. -/
import Derived.Test.YtodhdiccfobcfaaGreatDoorGClsG
namespace Go.Proofs.YtodhdiccfobcfaaGreatDoor
open Go.RowKit
set_option linter.unusedVariables false
set_option linter.unusedSimpArgs false

abbrev litP : List ConstV := [⟨0, noT, 0, 0, 0⟩, ⟨1, ⟨#[65]⟩, 0, 0, 0⟩, ⟨7, noT, 0, 1, 0⟩]
theorem isA : IsText (nums ⟨#[65]⟩) [65] := ⟨fun c hc => by simp at hc; subst hc; unfold Sc; omega, by decide⟩
theorem notBad : ¬ TextBad ⟨#[65]⟩ := fun h => by
  have := h _ 0 (.inl ⟨[65], isA, rfl, rfl⟩)
  have hl : (M8s [65]).length = 1 := by decide
  omega
theorem lit_check : checkZ litP = 0 := by
  have b1 : bareZ ⟨1, ⟨#[65]⟩, 0, 0, 0⟩ = true := by simp [bareZ]
  have b2 : bareZ ⟨7, noT, 0, 1, 0⟩ = true := by simp [bareZ]
  have o1 : oneZ litP ⟨1, ⟨#[65]⟩, 0, 0, 0⟩ = 0 := by
    unfold oneZ
    rw [if_neg (by rw [b1]; simp), if_pos rfl, if_neg notBad]
  have o2 : oneZ litP ⟨7, noT, 0, 1, 0⟩ = 0 := by
    unfold oneZ
    rw [if_neg (by rw [b2]; simp), if_neg (by decide), if_neg (by decide), if_neg (by decide), if_pos rfl, if_pos (by simp [isZ])]
  unfold checkZ
  rw [if_neg (by decide), if_neg (by rintro (h | h); exact absurd h (by simp); exact h rfl)]
  show errs litP [⟨1, ⟨#[65]⟩, 0, 0, 0⟩, ⟨7, noT, 0, 1, 0⟩] = 0
  unfold errs
  rw [if_neg (by simp [o1])]
  unfold errs
  rw [if_neg (by simp [o2])]
  rfl
theorem lit_class : clsZ ⟨litP, 2, 2, [], []⟩ = 0 := by
  refine clsZ_ok lit_check ?_ ⟨by simp [classZ, textZ, isZ], by simp [classZ, textZ, isZ], fun f hf => (by cases hf), fun m hm => (by cases hm)⟩
  rintro (h | h | ⟨m, hm, _⟩)
  · simp at h
  · simp at h
  · cases hm
set_option maxHeartbeats 4000000 in
set_option maxRecDepth 100000 in
theorem awake (w : World) (hT : Tabs w) (hg : ErrV w) : Calls Tryz.prog 10 #[] w fun e w' => e = .returned (.bool true) ∧ Only (fun _ => False) w w' := by
  have hb := heap_alloc_new w (.cells #[.int .i64 0, .string ⟨#[]⟩, .int .i64 0, .int .i64 0, .int .i64 0, .int .i64 1, .string ⟨#[65]⟩, .int .i64 0, .int .i64 0, .int .i64 0, .int .i64 7, .string ⟨#[]⟩, .int .i64 0, .int .i64 1, .int .i64 0] 67)
  have hp : Pool (w.alloc (.cells #[.int .i64 0, .string ⟨#[]⟩, .int .i64 0, .int .i64 0, .int .i64 0, .int .i64 1, .string ⟨#[65]⟩, .int .i64 0, .int .i64 0, .int .i64 0, .int .i64 7, .string ⟨#[]⟩, .int .i64 0, .int .i64 1, .int .i64 0] 67)) (.slice (some ⟨w.heap.size, 0, none⟩) 3 3) litP := by
    refine ⟨_, 3, rfl, by decide, by decide, (fun e => by cases e), ?_, fun x hx _ => ?_⟩
    · intro c hc
      simp only [List.mem_cons, List.mem_nil_iff, or_false] at hc
      rcases hc with rfl | rfl | rfl
      all_goals exact ⟨by unfold I64; simp, by unfold I64; simp, by unfold I64; simp, by unfold I64; simp, by decide⟩
    · cases hx
      refine ⟨w.heap.size, 0, rfl, fun i hi => ?_⟩
      match i, hi with
      | 0, _ => exact ⟨by rw [cell_blk hb]; rfl, by rw [cell_blk hb]; rfl, by rw [cell_blk hb]; rfl, by rw [cell_blk hb]; rfl, by rw [cell_blk hb]; rfl⟩
      | 1, _ => exact ⟨by rw [cell_blk hb]; rfl, by rw [cell_blk hb]; rfl, by rw [cell_blk hb]; rfl, by rw [cell_blk hb]; rfl, by rw [cell_blk hb]; rfl⟩
      | 2, _ => exact ⟨by rw [cell_blk hb]; rfl, by rw [cell_blk hb]; rfl, by rw [cell_blk hb]; rfl, by rw [cell_blk hb]; rfl, by rw [cell_blk hb]; rfl⟩
      | i + 3, h => exact absurd h (by simp)
  have hoP := (Only.refl (fun _ => False) w).alloc (.cells #[.int .i64 0, .string ⟨#[]⟩, .int .i64 0, .int .i64 0, .int .i64 0, .int .i64 1, .string ⟨#[65]⟩, .int .i64 0, .int .i64 0, .int .i64 0, .int .i64 7, .string ⟨#[]⟩, .int .i64 0, .int .i64 1, .int .i64 0] 67)
  generalize hW : w.alloc (.cells #[.int .i64 0, .string ⟨#[]⟩, .int .i64 0, .int .i64 0, .int .i64 0, .int .i64 1, .string ⟨#[65]⟩, .int .i64 0, .int .i64 0, .int .i64 0, .int .i64 7, .string ⟨#[]⟩, .int .i64 0, .int .i64 1, .int .i64 0] 67) = W at *
  have hcl : ClassM W (.slice (some ⟨w.heap.size, 0, none⟩) 3 3) (.slice none 0 0) (.slice none 0 0) ⟨litP, 2, 2, [], []⟩ :=
    ⟨hp, ⟨Sl.nil _, fun f hf => (by cases hf)⟩, ⟨fun _ => default, Sl.nil _, fun i hi => (by simp at hi), fun m hm => (by cases hm)⟩, by unfold I64; simp, by unfold I64; simp⟩
  have ho1 : ∀ o, Only (fun _ => False) w (W.alloc o) := fun o => hoP.alloc o
  have cK := fun o => progClsCheck _ _ _ _ _ (hcl.only ((Only.refl (fun _ => False) W).alloc o)) (hT.only (ho1 o) (fun h => h) (fun h => h)) (hg.only (ho1 o) (fun h => h))
  rw [lit_class] at cK
  have cN := fun w' (ho : Only (fun _ => False) W w') => clsName (.slice (some ⟨w.heap.size, 0, none⟩) 3 3) (.slice none 0 0) (.slice none 0 0) litP 2 2 w' (hp.only ho (fun _ _ h => h))
  rw [show classZ litP 2 = (⟨#[65]⟩, true) from by simp [classZ, textZ, isZ]] at cN
  have hb2 := fun o => heap_alloc_new W o
  have CK := Lib.hid cK
  have CN := Lib.hid cN
  have HW := Lib.hid hW
  have HO := Lib.hid ho1
  have HB2 := Lib.hid hb2
  clear hp hcl cK cN hT hg hoP ho1 hb hb2
  go_enter Tryz.func10, Tryz.ntmps10
  go_wp2_with (fail)
  refine (CK.out _).mono ?_
  rintro e w1 ⟨rfl, ho⟩
  have hbx := ho.heap (HB2.out _) (fun h => h)
  have q0 := cell_blk hbx 0
  have q1 := cell_blk hbx 1
  have q2 := cell_blk hbx 2
  have q3 := cell_blk hbx 3
  have q4 := cell_blk hbx 4
  simp at q0 q1 q2 q3 q4
  have hoW := ((Only.refl (fun _ => False) W).alloc _).trans ho (fun _ h => h.elim)
  have HO1 := Lib.hid ((HO.out _).trans ho (fun _ h => h.elim))
  have HOW := Lib.hid hoW
  clear ho CK hbx hoW HB2
  go_wp2_with (go_at_call 27; refine (CN.out _ HOW.out).mono ?_; rintro e w2 ⟨rfl, ho2⟩; have HO2 := Lib.hid ho2)
  go_ret
  exact ⟨rfl, HO1.out.trans HO2.out (fun _ h => h.elim)⟩
end Go.Proofs.YtodhdiccfobcfaaGreatDoor
