/- A refusal is never nought; a map stands where it is found; what was decoded fits. Plain words. -/
import Derived.Test.YtadgbkjjeigpjaaDoorGMapE
import Derived.Test.YtadgbkjjeigpjaaDoorGMapG
namespace Go.Proofs.YtadgbkjjeigpjaaDoor
open Go.RowKit
set_option linter.unusedVariables false
set_option linter.unusedSimpArgs false

def NZ {α : Type} (p : Pr α) : Prop := ∀ zs k e, p zs k = .error e → e ≠ 0
theorem NZ.bind {α β : Type} {p : Pr α} {f : α → Pr β} (hp : NZ p) (hf : ∀ a, NZ (f a)) : NZ (bindP p f) := fun zs k e h => by
  unfold bindP at h
  split at h
  · exact hf _ _ _ _ h
  · rename_i e' he
    injection h with h
    subst h
    exact hp _ _ _ he
theorem NZ.ret {α : Type} (a : α) : NZ (retP a) := fun _ _ _ h => by cases h
theorem NZ.fail {α : Type} {z : Int} (hz : z ≠ 0) : NZ (failP (α := α) z) := fun _ _ _ h => by injection h with h; rw [← h]; exact hz
theorem NZ.num (n : Nat) : NZ (numP n) := fun zs k e h => by
  unfold numP at h
  split at h
  · cases h
  · injection h with h; rw [← h]; decide
theorem NZ.must (b : Bool) : NZ (mustM b) := fun zs k e h => by
  unfold mustM at h
  split at h
  · cases h
  · injection h with h; rw [← h]; decide
theorem NZ.ite {α : Type} {c : Prop} [Decidable c] {p q : Pr α} (h1 : NZ p) (h2 : NZ q) : NZ (if c then p else q) := by split <;> assumption
theorem NZ.place (f : Int) : NZ (placeM f) := (NZ.num 2).bind fun n => (NZ.must _).bind fun _ => NZ.ret _
theorem NZ.cls (cs : List ConstV) : NZ (classM cs) := (NZ.num 2).bind fun i zs k e h => by
  cases ht : typeN (classZ cs i).1 with
  | none => rw [ht] at h; injection h with h; rw [← h]; decide
  | some t => rw [ht] at h; cases h
theorem NZ.type (cs : List ConstV) : NZ (typeM cs) := (NZ.num 1).bind fun n => ((NZ.ret _).ite ((NZ.ret _).ite ((NZ.ret _).ite ((NZ.ret _).ite ((NZ.ret _).ite ((NZ.cls cs).ite (((NZ.place 0).bind fun a => NZ.ret _).ite (NZ.fail (by decide)))))))))
theorem NZ.list {α : Type} {p : Pr α} (hp : NZ p) : ∀ n, NZ (listP p n)
  | 0 => NZ.ret _
  | n + 1 => hp.bind fun a => (NZ.list hp n).bind fun l => NZ.ret _
theorem NZ.types (cs : List ConstV) : NZ (typesM cs) := (NZ.num 2).bind fun n => (NZ.must _).bind fun _ => NZ.list (NZ.type cs) _
theorem NZ.map (cs : List ConstV) (f : Int) : NZ (mapM cs f) := (NZ.num 1).bind fun x => (NZ.must _).bind fun _ => (NZ.place f).bind fun a => (NZ.types cs).bind fun lo => (NZ.types cs).bind fun st => NZ.ret _
theorem NZ.run (cs : List ConstV) : ∀ n f, NZ (runM cs n f)
  | 0, _ => NZ.ret _
  | n + 1, f => (NZ.map cs f).bind fun m => (NZ.run cs n _).bind fun l => NZ.ret _
theorem dec_nz {cs : List ConstV} {zs : List Int} {e : Int} (h : decM cs zs = .error e) : e ≠ 0 := by
  unfold decM at h
  split at h
  · cases h
  · split at h
    · cases h
    · rename_i e' he
      injection h with h
      subst h
      exact ((NZ.num 2).bind fun n => (NZ.run cs n.toNat 0).bind fun l zs k e h => by
        split at h
        · cases h
        · injection h with h; rw [← h]; decide) _ _ _ he
/-- What was decoded fits. -/
theorem dec_fit {w : World} {v : Value} {cs : List ConstV} {zs : List Int} {l : List MapV} (hp : Pool w v cs) (hz : Bytish zs) (h : decM cs zs = .ok l) : Fit10 cs l := by
  have hr := dec_right hz h
  exact ⟨hr, fun m hm => ⟨fun t ht => ⟨(rise_mem hr m hm).2.lo t ht, ok_small hp ((rise_mem hr m hm).2.lo t ht)⟩, fun t ht => ⟨(rise_mem hr m hm).2.st t ht, ok_small hp ((rise_mem hr m hm).2.st t ht)⟩⟩⟩
/-- Where places rise, each is found where it stands. -/
theorem rise_find {cs : List ConstV} : ∀ {f : Int} {xs : List MapX} {j i0 : Nat}, RiseM cs f (xs.map (·.1)) → j < xs.length → idxP (atM (xs.getD j default).1.at_) i0 xs = ((i0 + j : Nat) : Int)
  | f, [], j, _, _, h => by simp at h
  | f, x :: r, 0, i0, h, _ => by
    rw [idxP_here rfl (by unfold atM; simp)]
    rfl
  | f, x :: r, j + 1, i0, h, hj => by
    have hlt : j < r.length := by simpa using hj
    have hm : (r.getD j default).1 ∈ r.map (·.1) := List.mem_map.2 ⟨_, getD_mem hlt, rfl⟩
    have hge : x.1.at_ + 1 ≤ (r.getD j default).1.at_ := (rise_mem h.2.2 _ hm).1
    have e : (x :: r).getD (j + 1) default = r.getD j default := by simp
    rw [e, idxP_skip rfl (by unfold atM; rw [beq_eq_false_iff_ne]; omega), rise_find h.2.2 hlt]
    congr 1
    omega
end Go.Proofs.YtadgbkjjeigpjaaDoor
