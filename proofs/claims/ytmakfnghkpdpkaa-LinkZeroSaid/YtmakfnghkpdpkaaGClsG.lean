/- The program's refusals: what leaves by a panic, what is taken up. No condition. -/
import Derived.Test.YtmakfnghkpdpkaaGClsR
import Derived.Test.YtmakfnghkpdpkaaPolM
import Derived.Test.YtmakfnghkpdpkaaGPolR
import Derived.WalkLawsBesides
import Derived.Defers
import Derived.Recover
namespace Go.Proofs.Ytmakfnghkpdpkaa
open Go.RowKit
set_option linter.unusedVariables false
set_option linter.unusedSimpArgs false

/-- A refusal on its way. -/
abbrev pan (z : Int) : Ending := .panicked [{ v := .iface 29 (.int .i64 z), recovered := false }]
/-- Goes on where Q holds, else refused by z. -/
def GoIf (Q : Prop) (z : Int) (w : World) (e : Ending) (w' : World) : Prop := ((Q ∧ e = .returned (.tuple #[])) ∨ (¬ Q ∧ e = pan z)) ∧ Only (fun _ => False) w w'
theorem GoIf.yes {Q : Prop} {z : Int} {w w' : World} (h : Q) (ho : Only (fun _ => False) w w') : GoIf Q z w (.returned (.tuple #[])) w' := ⟨.inl ⟨h, rfl⟩, ho⟩
theorem GoIf.no {Q : Prop} {z : Int} {w w' : World} (h : ¬ Q) (ho : Only (fun _ => False) w w') : GoIf Q z w (pan z) w' := ⟨.inr ⟨h, rfl⟩, ho⟩

theorem clsName (vp vf vm : Value) (cs : List ConstV) (this super : Int) (w : World) (hp : Pool w vp cs) :
    Calls Try.prog 80 #[.agg #[vp, .int .i64 this, .int .i64 super, vf, vm]] w fun e w' => e = .returned (.string (classZ cs this).1) ∧ Only (fun _ => False) w w' := by
  obtain ⟨ao, cap, rfl, _⟩ := id hp
  have ho0 : ∀ o, Only (fun _ => False) w (w.alloc o) := fun o => (Only.refl _ _).alloc o
  have c := fun o => progClass _ cs this _ (hp.only (ho0 o) (fun _ _ h => h))
  go_enter Try.func80, Try.ntmps80
  go_wp2_with (go_at_call 82; refine (c _).mono ?_; rintro e w' ⟨rfl, ho⟩)
  go_ret
  exact ⟨rfl, (ho0 _).trans ho (fun _ h => h.elim)⟩
/-- The texts of a right pool have nothing else, and none stands at its first place. -/
def Bare (cs : List ConstV) : Prop := (∀ c ∈ cs, c.tag = 1 → c.n = 0 ∧ c.a = 0 ∧ c.b = 0) ∧ (cs.getD 0 default).tag ≠ 1
theorem bare_of_right {cs : List ConstV} (h : checkZ cs = 0) : Bare cs := by
  obtain ⟨h1, h2, h3, h4⟩ := checkZ_zero h
  refine ⟨fun c hc ht => ?_, by rw [h3]; decide⟩
  obtain ⟨i, hi, rfl⟩ := List.mem_iff_getElem.1 hc
  have e : cs.getD i default = cs[i] := by simp [List.getD, hi]
  by_cases h0 : i = 0
  · subst h0; rw [← e, h3] at ht; exact absurd ht (by decide)
  · have hb := bare_of_one (h4 i (by omega) hi)
    rw [e] at hb
    unfold bareZ at hb
    rw [if_pos ht] at hb
    simpa using hb
/-- The earliest place that holds a text: -1: there is none. -/
noncomputable def idxZ (cs : List ConstV) (s : ByteArray) : Int := if placeOf cs s = 0 then -1 else placeOf cs s
theorem findFrom_pos {s : ByteArray} : ∀ {l : List ConstV} {i : Nat}, 1 ≤ i → findFrom s i l = 0 ∨ (i : Int) ≤ findFrom s i l
  | [], i, _ => .inl rfl
  | c :: r, i, hi => by
    by_cases hc : c.tag = 1 ∧ c.text = s
    · rw [findFrom_here rfl hc]; exact .inr (Int.le_refl _)
    · rw [findFrom_skip rfl hc]
      rcases findFrom_pos (s := s) (l := r) (i := i + 1) (by omega) with h | h
      · exact .inl h
      · exact .inr (by omega)
theorem idxZ_pos (cs : List ConstV) (s : ByteArray) : 0 < idxZ cs s ↔ placeOf cs s ≠ 0 := by
  unfold idxZ
  rcases findFrom_pos (s := s) (l := cs.drop 1) (i := 1) (by decide) with h | h
  · rw [if_pos (show placeOf cs s = 0 from h)]; exact ⟨fun h => absurd h (by decide), fun h' => absurd h h'⟩
  · have hne : placeOf cs s ≠ 0 := by unfold placeOf; omega
    rw [if_neg hne]
    refine ⟨fun _ => hne, fun _ => ?_⟩
    unfold placeOf
    omega

end Go.Proofs.Ytmakfnghkpdpkaa
