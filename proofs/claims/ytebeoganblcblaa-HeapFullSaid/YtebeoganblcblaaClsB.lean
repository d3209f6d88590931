/- Classes as values: fields, traps, methods in memory. No condition. -/
import Derived.Test.YtebeoganblcblaaPolT
namespace Go.Proofs.Ytebeoganblcblaa
open Go.RowKit
set_option linter.unusedVariables false
set_option linter.unusedSimpArgs false

structure FieldV where
  flags : Int
  name : Int
  desc : Int
instance : Inhabited FieldV := ⟨⟨0, 0, 0⟩⟩
structure TrapV where
  from_ : Int
  to_ : Int
  hand : Int
  type : Int
instance : Inhabited TrapV := ⟨⟨0, 0, 0, 0⟩⟩
structure MethodV where
  flags : Int
  name : Int
  desc : Int
  stack : Int
  locals : Int
  code : List Int
  traps : List TrapV
  maps : List Int
instance : Inhabited MethodV := ⟨⟨0, 0, 0, 0, 0, [], [], []⟩⟩
structure ClassV where
  pool : List ConstV
  this : Int
  super : Int
  fields : List FieldV
  methods : List MethodV

/-- A slice of n elements of which each stands as At says. -/
def Sl (v : Value) (n : Nat) (At : Nat → Nat → Nat → Prop) : Prop :=
  ∃ ao cap, v = .slice ao n cap ∧ n ≤ cap ∧ cap ≤ 9223372036854775807 ∧ (ao = none → cap = 0) ∧ ∀ x, ao = some x → 0 < n → ∃ b o, x = ⟨b, o, none⟩ ∧ ∀ i, i < n → At b o i
theorem Sl.imp {v : Value} {n : Nat} {At At' : Nat → Nat → Nat → Prop} (h : Sl v n At) (hi : ∀ b o i, v.ownBlock = some b → i < n → At b o i → At' b o i) : Sl v n At' := by
  obtain ⟨ao, cap, rfl, h1, h2, h3, h4⟩ := h
  refine ⟨ao, cap, rfl, h1, h2, h3, fun x hx h0 => ?_⟩
  obtain ⟨b, o, rfl, h5⟩ := h4 x hx h0
  subst hx
  exact ⟨b, o, rfl, fun i hl => hi b o i rfl hl (h5 i hl)⟩
theorem Sl.at {ao : Option Addr} {n cap : Nat} {At : Nat → Nat → Nat → Prop} (h : Sl (.slice ao n cap) n At) {i : Nat} (hi : i < n) : ∃ b o, ao = some ⟨b, o, none⟩ ∧ At b o i := by
  obtain ⟨ao', cap', e, h1, h2, h3, h4⟩ := h
  injection e with e1 _ e3
  subst e1 e3
  cases ao with
  | none => have := h3 rfl; omega
  | some x =>
    obtain ⟨b, o, rfl, h5⟩ := h4 x rfl (by omega)
    exact ⟨b, o, rfl, h5 i hi⟩
theorem Sl.slice {v : Value} {n : Nat} {At : Nat → Nat → Nat → Prop} (h : Sl v n At) : ∃ ao cap, v = .slice ao n cap ∧ n ≤ cap ∧ cap ≤ 9223372036854775807 := by
  obtain ⟨ao, cap, e, h1, h2, _⟩ := h
  exact ⟨ao, cap, e, h1, h2⟩
theorem Sl.nil (At : Nat → Nat → Nat → Prop) : Sl (.slice none 0 0) 0 At := ⟨none, 0, rfl, Nat.le_refl _, by omega, fun _ => rfl, fun x hx => by cases hx⟩

structure FieldAt (w : World) (b o i : Nat) (f : FieldV) : Prop where
  c0 : w.cell? ⟨b, o + i * 3, none⟩ = some (.int .i64 f.flags)
  c1 : w.cell? ⟨b, o + i * 3 + 1, none⟩ = some (.int .i64 f.name)
  c2 : w.cell? ⟨b, o + i * 3 + 2, none⟩ = some (.int .i64 f.desc)
structure TrapAt (w : World) (b o i : Nat) (t : TrapV) : Prop where
  c0 : w.cell? ⟨b, o + i * 4, none⟩ = some (.int .i64 t.from_)
  c1 : w.cell? ⟨b, o + i * 4 + 1, none⟩ = some (.int .i64 t.to_)
  c2 : w.cell? ⟨b, o + i * 4 + 2, none⟩ = some (.int .i64 t.hand)
  c3 : w.cell? ⟨b, o + i * 4 + 3, none⟩ = some (.int .i64 t.type)
structure MethodAt (w : World) (b o i : Nat) (m : MethodV) (vc vt vm : Value) : Prop where
  c0 : w.cell? ⟨b, o + i * 8, none⟩ = some (.int .i64 m.flags)
  c1 : w.cell? ⟨b, o + i * 8 + 1, none⟩ = some (.int .i64 m.name)
  c2 : w.cell? ⟨b, o + i * 8 + 2, none⟩ = some (.int .i64 m.desc)
  c3 : w.cell? ⟨b, o + i * 8 + 3, none⟩ = some (.int .i64 m.stack)
  c4 : w.cell? ⟨b, o + i * 8 + 4, none⟩ = some (.int .i64 m.locals)
  c5 : w.cell? ⟨b, o + i * 8 + 5, none⟩ = some vc
  c6 : w.cell? ⟨b, o + i * 8 + 6, none⟩ = some vt
  c7 : w.cell? ⟨b, o + i * 8 + 7, none⟩ = some vm
def FieldR (f : FieldV) : Prop := I64 f.flags ∧ I64 f.name ∧ I64 f.desc
def TrapR (t : TrapV) : Prop := I64 t.from_ ∧ I64 t.to_ ∧ I64 t.hand ∧ I64 t.type
def MethodR (m : MethodV) : Prop := I64 m.flags ∧ I64 m.name ∧ I64 m.desc ∧ I64 m.stack ∧ I64 m.locals
def Fields (w : World) (v : Value) (fs : List FieldV) : Prop := Sl v fs.length (fun b o i => FieldAt w b o i (fs.getD i default)) ∧ ∀ f ∈ fs, FieldR f
def Traps (w : World) (v : Value) (ts : List TrapV) : Prop := Sl v ts.length (fun b o i => TrapAt w b o i (ts.getD i default)) ∧ ∀ t ∈ ts, TrapR t
/-- What a method's slices hold. -/
def Inside (w : World) (m : MethodV) (vc vt vm : Value) : Prop := Bytes w vc m.code ∧ Traps w vt m.traps ∧ Bytes w vm m.maps
def Methods (w : World) (v : Value) (ms : List MethodV) : Prop :=
  ∃ f : Nat → Value × Value × Value, Sl v ms.length (fun b o i => MethodAt w b o i (ms.getD i default) (f i).1 (f i).2.1 (f i).2.2) ∧ (∀ i, i < ms.length → Inside w (ms.getD i default) (f i).1 (f i).2.1 (f i).2.2) ∧ ∀ m ∈ ms, MethodR m
def ClassM (w : World) (vp vf vm : Value) (c : ClassV) : Prop := Pool w vp c.pool ∧ Fields w vf c.fields ∧ Methods w vm c.methods ∧ I64 c.this ∧ I64 c.super

section
variable {w w' : World} (ho : Only (fun _ => False) w w')
include ho
theorem FieldAt.only {b o i : Nat} {f : FieldV} (h : FieldAt w b o i f) : FieldAt w' b o i f := ⟨ho.cell h.c0 (fun h => h), ho.cell h.c1 (fun h => h), ho.cell h.c2 (fun h => h)⟩
theorem TrapAt.only {b o i : Nat} {t : TrapV} (h : TrapAt w b o i t) : TrapAt w' b o i t := ⟨ho.cell h.c0 (fun h => h), ho.cell h.c1 (fun h => h), ho.cell h.c2 (fun h => h), ho.cell h.c3 (fun h => h)⟩
theorem MethodAt.only {b o i : Nat} {m : MethodV} {vc vt vm : Value} (h : MethodAt w b o i m vc vt vm) : MethodAt w' b o i m vc vt vm :=
  ⟨ho.cell h.c0 (fun h => h), ho.cell h.c1 (fun h => h), ho.cell h.c2 (fun h => h), ho.cell h.c3 (fun h => h), ho.cell h.c4 (fun h => h), ho.cell h.c5 (fun h => h), ho.cell h.c6 (fun h => h), ho.cell h.c7 (fun h => h)⟩
theorem Fields.only {v : Value} {fs : List FieldV} (h : Fields w v fs) : Fields w' v fs := ⟨h.1.imp (fun _ _ _ _ _ h => h.only ho), h.2⟩
theorem Traps.only {v : Value} {ts : List TrapV} (h : Traps w v ts) : Traps w' v ts := ⟨h.1.imp (fun _ _ _ _ _ h => h.only ho), h.2⟩
theorem Inside.only {m : MethodV} {vc vt vm : Value} (h : Inside w m vc vt vm) : Inside w' m vc vt vm := ⟨h.1.only ho (fun _ _ _ h => h), h.2.1.only ho, h.2.2.only ho (fun _ _ _ h => h)⟩
theorem Methods.only {v : Value} {ms : List MethodV} (h : Methods w v ms) : Methods w' v ms := by
  obtain ⟨f, h1, h2, h3⟩ := h
  exact ⟨f, h1.imp (fun _ _ _ _ _ h => h.only ho), fun i hi => (h2 i hi).only ho, h3⟩
theorem ClassM.only {vp vf vm : Value} {c : ClassV} (h : ClassM w vp vf vm c) : ClassM w' vp vf vm c := ⟨Pool.only h.1 ho (fun _ _ h => h), h.2.1.only ho, h.2.2.1.only ho, h.2.2.2⟩
end
theorem getD_mem {α : Type} [Inhabited α] {l : List α} {i : Nat} (h : i < l.length) : l.getD i default ∈ l := by
  have e : l.getD i default = l[i] := by simp [List.getD, h]
  rw [e]
  exact List.getElem_mem h
end Go.Proofs.Ytebeoganblcblaa
