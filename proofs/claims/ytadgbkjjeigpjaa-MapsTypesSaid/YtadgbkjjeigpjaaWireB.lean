/- Reading a number: the program's readNumber at both kinds. No condition beyond a reader that was made. -/
import Derived.Test.YtadgbkjjeigpjaaWireA
import Derived.Test.YtadgbkjjeigpjaaMem
import Derived.Test.YtadgbkjjeigpjaaNum
namespace Go.Proofs.Ytadgbkjjeigpjaa
open Go.RowKit

/-- A reader's place has been set; nothing else. -/
def Moved (rb : Nat) (k : Int) (w w' : World) : Prop := ∃ nq, w' = (w.setCell ⟨rb, 1, none⟩ (.int .i64 k)).drewN nq
theorem Moved.drawn {rb : Nat} {k : Int} {w w' w'' : World} (h : Moved rb k w w') (h' : Drawn w' w'') : Moved rb k w w'' := by
  obtain ⟨a, rfl⟩ := h; obtain ⟨b, rfl⟩ := h'; exact ⟨a + b, by simp [World.drewN, Nat.add_assoc]⟩
theorem Moved.after {rb : Nat} {k : Int} {w w' w'' : World} (h : Drawn w w') (h' : Moved rb k w' w'') : Moved rb k w w'' := by
  obtain ⟨a, rfl⟩ := h; obtain ⟨b, rfl⟩ := h'; exact ⟨a + b, by simp [World.drewN, World.setCell, Nat.add_assoc]⟩
theorem Moved.other {rb : Nat} {k : Int} {w w' : World} (h : Moved rb k w w') {a : Addr} (ha : a ≠ ⟨rb, 1, none⟩) : w'.cell? a = w.cell? a := by
  obtain ⟨n, rfl⟩ := h
  show (w.setCell _ _).cell? a = _
  exact World.cell?_setCell_other _ _ _ _ (fun e => ha e.symm)
theorem Moved.same {rb : Nat} {k : Int} {u : Value} {w w' : World} (h : Moved rb k w w') (hu : w.cell? ⟨rb, 1, none⟩ = some u) : w'.cell? ⟨rb, 1, none⟩ = some (.int .i64 k) := by
  obtain ⟨n, rfl⟩ := h
  show (w.setCell _ _).cell? _ = _
  exact World.cell?_setCell_same _ _ _ hu
theorem Moved.frozen {rb : Nat} {k : Int} {w w' : World} (h : Moved rb k w w') (a : Addr) : w'.frozen? a = w.frozen? a := by
  obtain ⟨n, rfl⟩ := h
  show (w.setCell _ _).frozen? _ = _
  simp
theorem Moved.only {rb : Nat} {k : Int} {w w' : World} (h : Moved rb k w w') : Only (fun b => b = rb) w w' := by
  obtain ⟨n, rfl⟩ := h
  exact (Only.setCell (S := fun b => b = rb) (Only.refl _ _) (fun _ => rfl) _).drewN n

end Go.Proofs.Ytadgbkjjeigpjaa
