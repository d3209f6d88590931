/- Lists of maps as values: read, and owned. No condition. -/
import Derived.Test.YtadgbkjjeigpjaaDoorMapW
import Derived.Test.YtadgbkjjeigpjaaDoorKndT
import Derived.Test.YtadgbkjjeigpjaaDoorRowG
namespace Go.Proofs.YtadgbkjjeigpjaaDoor
open Go.RowKit
set_option linter.unusedVariables false
set_option linter.unusedSimpArgs false

/-- A map with the slices of its locals and of its stack. -/
abbrev MapX := MapV × Value × Value
def cellsMp (x : MapX) : List Value := [.int .i64 x.1.at_, x.2.1, x.2.2, .bool x.1.fresh]
structure MapAt (w : World) (b o i : Nat) (x : MapX) : Prop where
  c0 : w.cell? ⟨b, o + i * 4, none⟩ = some (.int .i64 x.1.at_)
  c1 : w.cell? ⟨b, o + i * 4 + 1, none⟩ = some x.2.1
  c2 : w.cell? ⟨b, o + i * 4 + 2, none⟩ = some x.2.2
  c3 : w.cell? ⟨b, o + i * 4 + 3, none⟩ = some (.bool x.1.fresh)
theorem MapAt.only {S : Nat → Prop} {w w' : World} {b o i : Nat} {x : MapX} (h : MapAt w b o i x) (ho : Only S w w') (hs : ¬ S b) : MapAt w' b o i x :=
  ⟨ho.cell h.c0 hs, ho.cell h.c1 hs, ho.cell h.c2 hs, ho.cell h.c3 hs⟩
instance : Inhabited MapX := ⟨(default, .slice none 0 0, .slice none 0 0)⟩
def MapsX (w : World) (v : Value) (xs : List MapX) : Prop := Sl v xs.length (fun b o i => MapAt w b o i (xs.getD i default)) ∧ ∀ x ∈ xs, Types w x.2.1 x.1.locals ∧ Types w x.2.2 x.1.stack
def Maps (w : World) (v : Value) (l : List MapV) : Prop := ∃ xs : List MapX, xs.map (·.1) = l ∧ MapsX w v xs
theorem MapsX.only {w w' : World} {v : Value} {xs : List MapX} (h : MapsX w v xs) (ho : Only (fun _ => False) w w') : MapsX w' v xs :=
  ⟨h.1.imp (fun _ _ _ _ _ h => h.only ho (fun h => h)), fun x hx => ⟨(h.2 x hx).1.only ho, (h.2 x hx).2.only ho⟩⟩
theorem Maps.only {w w' : World} {v : Value} {l : List MapV} (h : Maps w v l) (ho : Only (fun _ => False) w w') : Maps w' v l := by
  obtain ⟨xs, h1, h2⟩ := h
  exact ⟨xs, h1, h2.only ho⟩
theorem MapsX.nil (w : World) : MapsX w (.slice none 0 0) [] := ⟨Sl.nil _, fun x hx => by cases hx⟩
theorem Maps.nil (w : World) : Maps w (.slice none 0 0) [] := ⟨[], rfl, MapsX.nil w⟩
theorem getD_fst {xs : List MapX} {i : Nat} (hi : i < xs.length) : (xs.map (·.1)).getD i default = (xs.getD i default).1 := by simp [List.getD, hi]

/-- An owned list of maps: its own row, and each map's rows. -/
structure MapsO (w : World) (B : Nat) (v : Value) (xs : List MapX) : Prop where
  rg : RowG 37 4 cellsMp w B v xs
  ins : ∀ x ∈ xs, TRow w B x.2.1 x.1.locals ∧ TRow w B x.2.2 x.1.stack ∧ (∀ j, x.2.1.ownBlock = some j → v.ownBlock ≠ some j) ∧ (∀ j, x.2.2.ownBlock = some j → v.ownBlock ≠ some j)
theorem TRow.keep {w w' : World} {B : Nat} {v : Value} {l : List TypeV} {S : Nat → Prop} (h : TRow w B v l) (ho : Only S w w') (hS : ∀ j, S j → j < B) : TRow w' B v l := h.only ho (fun k hk hs => by have := (h.ge k hk).1; have := hS k hs; omega)
theorem TRow.base {w : World} {B B' : Nat} {v : Value} {l : List TypeV} (h : TRow w B v l) (hb : B' ≤ B) : TRow w B' v l := owns_base h (fun k hk => Nat.le_trans hb (h.ge k hk).1)
theorem MapsO.nil (w : World) (B : Nat) : MapsO w B (.slice none 0 0) [] := ⟨RowG.nil _ _, fun x hx => by cases hx⟩
theorem MapsO.keep {w w' : World} {B : Nat} {v : Value} {xs : List MapX} {S : Nat → Prop} (h : MapsO w B v xs) (ho : Only S w w') (hS : ∀ j, S j → j < B) : MapsO w' B v xs :=
  ⟨h.rg.keep ho hS, fun x hx => ⟨(h.ins x hx).1.keep ho hS, (h.ins x hx).2.1.keep ho hS, (h.ins x hx).2.2⟩⟩
theorem MapsO.idle {w w' : World} {B : Nat} {v : Value} {xs : List MapX} (h : MapsO w B v xs) (ho : Only (fun _ => False) w w') : MapsO w' B v xs := h.keep ho (fun _ h => h.elim)
theorem MapsO.base {w : World} {B B' : Nat} {v : Value} {xs : List MapX} (h : MapsO w B v xs) (hb : B' ≤ B) : MapsO w B' v xs :=
  ⟨h.rg.base hb, fun x hx => ⟨(h.ins x hx).1.base hb, (h.ins x hx).2.1.base hb, (h.ins x hx).2.2⟩⟩
theorem MapsO.maps {w : World} {B : Nat} {v : Value} {xs : List MapX} (h : MapsO w B v xs) : MapsX w v xs :=
  ⟨(RowG.sl (n := 4) (cells := cellsMp) (fun _ => rfl) h.rg).imp (fun b o i _ _ hd => ⟨hd 0 (by decide), hd 1 (by decide), hd 2 (by decide), hd 3 (by decide)⟩), fun x hx => ⟨(h.ins x hx).1.types, (h.ins x hx).2.1.types⟩⟩
/-- One map more. -/
theorem MapsO.push {w w1 : World} {B : Nat} {v v' : Value} {xs : List MapX} {x : MapX} (h : MapsO w B v xs) (h1 : TRow w B x.2.1 x.1.locals) (h2 : TRow w B x.2.2 x.1.stack)
    (n1 : ∀ j, x.2.1.ownBlock = some j → v.ownBlock ≠ some j) (n2 : ∀ j, x.2.2.ownBlock = some j → v.ownBlock ≠ some j)
    (hown : w1.ownsRow B 37 4 v' (xs.length + 1) (xs.flatMap cellsMp ++ cellsMp x)) (hg : w.grownBy w1 v.ownBlock) (hn : ∀ k, v'.ownBlock = some k → v.ownBlock = some k ∨ w.heap.size ≤ k) :
    MapsO w1 B v' (xs ++ [x]) ∧ Only (fun j => v.ownBlock = some j) w w1 := by
  have ho : Only (fun j => v.ownBlock = some j) w w1 := (Only.refl _ w).grown hg (fun k hk _ => hk)
  refine ⟨⟨RowG.more hown, fun y hy => ?_⟩, ho⟩
  have hy' : TRow w B y.2.1 y.1.locals ∧ TRow w B y.2.2 y.1.stack ∧ (∀ j, y.2.1.ownBlock = some j → v.ownBlock ≠ some j) ∧ (∀ j, y.2.2.ownBlock = some j → v.ownBlock ≠ some j) := by
    rcases List.mem_append.1 hy with hy | hy
    · exact h.ins y hy
    · simp only [List.mem_cons, List.mem_nil_iff, or_false] at hy
      subst hy
      exact ⟨h1, h2, n1, n2⟩
  obtain ⟨t1, t2, m1, m2⟩ := hy'
  refine ⟨t1.only ho m1, t2.only ho m2, fun j hj e => ?_, fun j hj e => ?_⟩
  · rcases hn j e with e1 | e1
    · exact m1 j hj e1
    · have := (t1.ge j hj).2; omega
  · rcases hn j e with e1 | e1
    · exact m2 j hj e1
    · have := (t2.ge j hj).2; omega
/-- Fresh is when one of them is KThis. -/
theorem freshM_step {l : List TypeV} {j : Nat} (hj : j < l.length) : freshM (l.take (j + 1)) = (freshM (l.take j) || (l.getD j default).k == 7) := by
  unfold freshM
  rw [List.take_succ_eq_append_getElem hj, List.any_append]
  simp [List.getD, hj]
end Go.Proofs.YtadgbkjjeigpjaaDoor
