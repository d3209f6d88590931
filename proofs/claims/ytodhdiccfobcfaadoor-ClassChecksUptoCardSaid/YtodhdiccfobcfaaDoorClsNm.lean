/- The names of a class and of the one above it: the program's and the document's. No condition. -/
import Derived.Test.YtodhdiccfobcfaaDoorClsG
namespace Go.Proofs.YtodhdiccfobcfaaDoor
open Go.RowKit
set_option linter.unusedVariables false
set_option linter.unusedSimpArgs false

theorem clsSuper (vp vf vm : Value) (cs : List ConstV) (this super : Int) (w : World) (hp : Pool w vp cs) :
    Calls Tryd.prog 8 #[.agg #[vp, .int .i64 this, .int .i64 super, vf, vm]] w fun e w' => e = .returned (.string (classZ cs super).1) ∧ Only (fun _ => False) w w' := by
  obtain ⟨ao, cap, rfl, _⟩ := id hp
  have ho0 : ∀ o, Only (fun _ => False) w (w.alloc o) := fun o => (Only.refl _ _).alloc o
  have c := fun o => progClass _ cs super _ (hp.only (ho0 o) (fun _ _ h => h))
  go_enter Tryd.func8, Tryd.ntmps8
  go_wp2_with (go_at_call 18; refine (c _).mono ?_; rintro e w' ⟨rfl, ho⟩)
  go_ret
  exact ⟨rfl, (ho0 _).trans ho (fun _ h => h.elim)⟩
theorem refClsName (vp vf vm : Value) (cs : List ConstV) (this super : Int) (w : World) (hp : Pool w vp cs) :
    Calls Tryd.prog 7 #[.agg #[vp, .int .i64 this, .int .i64 super, vf, vm]] w fun e w' => e = .returned (.string (classZ cs this).1) ∧ Only (fun _ => False) w w' := by
  obtain ⟨ao, cap, rfl, _⟩ := id hp
  have ho0 : ∀ o, Only (fun _ => False) w (w.alloc o) := fun o => (Only.refl _ _).alloc o
  have c := fun o => refClass _ cs this _ (hp.only (ho0 o) (fun _ _ h => h))
  go_enter Tryd.func7, Tryd.ntmps7
  go_wp2_with (go_at_call 19; refine (c _).mono ?_; rintro e w' ⟨rfl, rfl⟩)
  go_ret
  exact ⟨rfl, ho0 _⟩
theorem refClsSuper (vp vf vm : Value) (cs : List ConstV) (this super : Int) (w : World) (hp : Pool w vp cs) :
    Calls Tryd.prog 9 #[.agg #[vp, .int .i64 this, .int .i64 super, vf, vm]] w fun e w' => e = .returned (.string (classZ cs super).1) ∧ Only (fun _ => False) w w' := by
  obtain ⟨ao, cap, rfl, _⟩ := id hp
  have ho0 : ∀ o, Only (fun _ => False) w (w.alloc o) := fun o => (Only.refl _ _).alloc o
  have c := fun o => refClass _ cs super _ (hp.only (ho0 o) (fun _ _ h => h))
  go_enter Tryd.func9, Tryd.ntmps9
  go_wp2_with (go_at_call 19; refine (c _).mono ?_; rintro e w' ⟨rfl, rfl⟩)
  go_ret
  exact ⟨rfl, ho0 _⟩
end Go.Proofs.YtodhdiccfobcfaaDoor
