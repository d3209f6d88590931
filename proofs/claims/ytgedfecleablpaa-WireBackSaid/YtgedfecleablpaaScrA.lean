/- The script of a law of layer 1: what each of its calls holds, out of the reading of the argument. No condition but the form's own reach. -/
import Derived.Test.YtgedfecleablpaaOpen
namespace Go.Proofs.Ytgedfecleablpaa
open Go.ChangeShapes Go.WideShapes Go.ChangeAt Go.RowKit Go.Deep

/-- A call of a script. -/
structure OpV where
  what : Int
  n : Int
  x : Int
  y : Int
  b : Value
  bs : List Int

instance : Inhabited OpV := ⟨⟨0, 0, 0, 0, .slice none 0 0, []⟩⟩

/-- Its cells at an address, element i; what fits where. -/
structure OpAt (w : World) (a : Addr) (i : Nat) (o : OpV) : Prop where
  c0 : w.cell? (a.add (i * 5 + 0)) = some (.int .i64 o.what)
  c1 : w.cell? (a.add (i * 5 + 1)) = some (.int .i64 o.n)
  c2 : w.cell? (a.add (i * 5 + 2)) = some (.int .u64 o.x)
  c3 : w.cell? (a.add (i * 5 + 3)) = some (.int .i64 o.y)
  c4 : w.cell? (a.add (i * 5 + 4)) = some o.b
  rn : -9223372036854775808 ≤ o.n ∧ o.n ≤ 9223372036854775807
  rx : 0 ≤ o.x ∧ o.x ≤ 18446744073709551615
  ry : -9223372036854775808 ≤ o.y ∧ o.y ≤ 9223372036854775807
  by_ : Bytes w o.b o.bs
  le : o.bs.length ≤ 140737488351232

def Script (w : World) (v : Value) (len : Nat) (f : Nat → OpV) : Prop :=
  ∃ ao cap, v = .slice ao len cap ∧ len ≤ cap ∧ cap ≤ 140737488351232 ∧ (ao = none → len = 0) ∧ ∀ a, ao = some a → ∀ i, i < len → OpAt w a i (f i)

theorem cells_op : Try.prog.cellsOf 31 = 5 := by kernel_rfl
theorem bytes_op : Try.prog.bytesOf 31 = 56 := by kernel_rfl

section
variable {H : Type} {enc : TypeId × Value → H} {w : World} {held : Bool}

theorem open_script {fuel : Nat} {cs : List Value} {x : DataW H × List MemPlace} (h : DataW.trod enc Try.prog w 0 (fun _ => true) held fuel 23 cs = some x) (hL : Light Try.prog 23 x.1) :
    ∃ v len f, cs = [v] ∧ Script w v len f := by
  obtain ⟨ao, len, cap, rfl, hl, hm, hn, hb, hi⟩ := open_elems Try.underlying23 Try.underlying31 (by kernel_rfl) (by kernel_rfl) h hL
  rw [bytes_op] at hb
  cases ao with
  | none => exact ⟨_, len, fun _ => default, rfl, none, cap, rfl, hl, by omega, fun _ => by have := hn rfl; omega, fun a ha => by cases ha⟩
  | some a =>
    have hall : ∀ i, i < len → ∃ o : OpV, OpAt w a i o := by
      intro i hil
      obtain ⟨v0, n0, y0, d0, t0, _⟩ := hi a rfl i hil 0 _ rfl
      obtain ⟨v1, n1, y1, d1, t1, _⟩ := hi a rfl i hil 1 _ rfl
      obtain ⟨v2, n2, y2, d2, t2, _⟩ := hi a rfl i hil 2 _ rfl
      obtain ⟨v3, n3, y3, d3, t3, _⟩ := hi a rfl i hil 3 _ rfl
      obtain ⟨v4, n4, y4, d4, t4, l4⟩ := hi a rfl i hil 4 _ rfl
      obtain ⟨k0, e0, _, w0⟩ := DataW.trod_int Try.underlying3 t0
      obtain ⟨k1, e1, _, w1⟩ := DataW.trod_int Try.underlying3 t1
      obtain ⟨k2, e2, _, w2⟩ := DataW.trod_int Try.underlying29 t2
      obtain ⟨k3, e3, _, w3⟩ := DataW.trod_int Try.underlying2 t3
      obtain ⟨v, zs, e4, hbz, hzl⟩ := open_bytes Try.underlying22 Try.underlying5 (by kernel_rfl) (by kernel_rfl) t4 l4
      simp only [List.cons.injEq, and_true] at e0 e1 e2 e3 e4
      subst e0 e1 e2 e3 e4
      exact ⟨⟨k0, k1, k2, k3, v4, zs⟩, d0, d1, d2, d3, d4, bounds_i64 w1, bounds_u64 w2, bounds_i64 w3, hbz, hzl⟩
    obtain ⟨f, hf⟩ := choose_lt hall
    exact ⟨_, len, f, rfl, some a, cap, rfl, hl, by omega, (fun e => by cases e), fun a' ha i hil => by cases ha; exact hf i hil⟩
end

theorem Script.below {B : Nat} {w w' : World} {v : Value} {len : Nat} {f : Nat → OpV} (h : Script w v len f) (hb : Below B w w') (hs : w.heap.size ≤ B) : Script w' v len f := by
  obtain ⟨ao, cap, rfl, h1, h2, h3, h4⟩ := h
  refine ⟨ao, cap, rfl, h1, h2, h3, fun a ha i hi => ?_⟩
  have o := h4 a ha i hi
  have hc : ∀ {j : Nat} {u : Value}, w.cell? (a.add j) = some u → w'.cell? (a.add j) = some u := by
    intro j u hu
    have := World.block_lt_of_cell? w _ hu
    exact (hb.cell (by omega)).trans hu
  exact ⟨hc o.c0, hc o.c1, hc o.c2, hc o.c3, hc o.c4, o.rn, o.rx, o.ry, o.by_.below hb hs, o.le⟩

theorem arg_bytes {H : Type} {enc : TypeId × Value → H} {W : World} {base : Nat} {v : Value} {d : DataW H} {p : List MemPlace} (hv : Value.okWide Try.prog W .any base 22 v) (h : DataW.Trod enc Try.prog W 0 (fun _ => true) true 22 v d p)
    (hL : Light Try.prog 22 d) : ∃ zs, Bytes W v zs ∧ zs.length ≤ 140737488351232 := by
  obtain ⟨a, l, c, rfl⟩ := okWide_slice Try.underlying22 hv
  obtain ⟨fuel, hf⟩ := h
  obtain ⟨v', zs, e, hb, hl⟩ := open_bytes Try.underlying22 Try.underlying5 (by kernel_rfl) (by kernel_rfl) hf hL
  simp [Value.cells] at e
  subst e
  exact ⟨zs, hb, hl⟩
theorem arg_script {H : Type} {enc : TypeId × Value → H} {W : World} {base : Nat} {v : Value} {d : DataW H} {p : List MemPlace} (hv : Value.okWide Try.prog W .any base 23 v) (h : DataW.Trod enc Try.prog W 0 (fun _ => true) true 23 v d p)
    (hL : Light Try.prog 23 d) : ∃ len f, Script W v len f := by
  obtain ⟨a, l, c, rfl⟩ := okWide_slice Try.underlying23 hv
  obtain ⟨fuel, hf⟩ := h
  obtain ⟨v', len, f, e, hs⟩ := open_script hf hL
  simp [Value.cells] at e
  subst e
  exact ⟨len, f, hs⟩
end Go.Proofs.Ytgedfecleablpaa
