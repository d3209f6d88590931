/- The law's awake of layer 14, and small laws for its laws. No condition. -/
import Derived.Test.YtebeoganblcblaaHpY
namespace Go.Proofs.Ytebeoganblcblaa
open Go.RowKit
set_option linter.unusedVariables false
set_option linter.unusedSimpArgs false

section
variable {P : Program} {md : Region.Mode} {ops : Array Oper} {Q : Exit → Act → World → Prop} {S S' : World → Prop}
/-- More may be held from here on. -/
theorem wpAnyH_more (h : ∀ w, S' w → S w) : ∀ (fuel : Nat) (listed : Array Bool) (a : Act) (w : World), wpAnyH P md ops Q S' fuel listed a w → wpAnyH P md ops Q S fuel listed a w
  | 0, _, _, _, k => k
  | fuel + 1, _, _, _, k => ⟨k.1, fun i hi => wpOp_mono (fun a' w' k' => ⟨h w' k'.1, wpAnyH_more h fuel _ a' w' k'.2⟩) (k.2 i hi)⟩
end
/-- A script's types stay while only new memory is written. -/
theorem Types.far {w0 w W : World} {v : Value} {l : List TypeV} (h : Types w0 v l) (h0 : Only (fun _ => False) w0 w) {S : Nat → Prop} (ho : Only S w W) (hs : ∀ k, k < w0.heap.size → ¬ S k) : Types W v l :=
  Sl.imp h (fun b o i hb hi hq => by
    have hl : b < w0.heap.size := World.block_lt_of_cell? _ _ hq.c0
    exact (hq.only h0 (fun h => h)).only ho (hs b hl))
set_option maxRecDepth 100000 in
theorem awake14 (w : World) : Calls Try.prog 15 #[] w fun e w' => e = .returned (.bool true) ∧ Only (fun _ => False) w w' := by
  have C := Lib.hid (fun W => progFirst14 ⟨1, ⟨#[]⟩, 0, 0, 0⟩ W)
  rw [show firstZ ⟨1, ⟨#[]⟩, 0, 0, 0⟩ = ⟨1, 0, 0⟩ from rfl] at C
  unfold valT valVa at C
  simp only at C
  go_enter Try.func15, Try.ntmps15
  go_wp2_with (fail)
  refine (C.out _).mono ?_
  rintro e w1 ⟨rfl, hww⟩
  have HO1 := Lib.hid hww
  clear hww
  have hfd : ∀ w : World, (Instr.field 34 (.agg #[.int .i64 1, .int .i64 0, .int .i64 0]) 0).run Try.prog w = .ok (.int .i64 1) w := fun _ => by kernel_rfl
  go_wp2
  go_ret
  exact ⟨rfl, HO1.out⟩
end Go.Proofs.Ytebeoganblcblaa
