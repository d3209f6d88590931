import Derived.Test.YtinbelghhfodiaaGreatDoorMaTxtFArg
import Derived.Test.YtinbelghhfodiaaGreatDoorMaSepPolT
import Derived.Lib.Hide
import Derived.Laws.StructEq
import Derived.Laws.Rows
import Derived.Laws.ResultCell
namespace Go.Proofs.YtinbelghhfodiaaGreatDoor
set_option maxHeartbeats 2000000
open Lib (hid)
open Go.ChangeShapes Go.WideShapes Go.ChangeAt Go.RowKit Go.Deep
set_option linter.unusedVariables false
set_option linter.unusedSimpArgs false
theorem cells_const : Tryz.prog.cellsOf 113 = 5 := by kernel_rfl
theorem bytes_const : Tryz.prog.bytesOf 113 = 48 := by kernel_rfl
theorem bulk_mem {H : Type} : ∀ {l : List (DataW H)} {d : DataW H}, d ∈ l → Rows.uptoBulk d ≤ Rows.uptoBulkAll l
 | [], d, h => by cases h
 | a :: r, d, h => by
  simp only [Rows.uptoBulkAll]
  rcases List.mem_cons.1 h with rfl | h
  ·omega
  ·have := bulk_mem h; omega
section
variable {H : Type} {enc : TypeId × Value → H} {w : World} {held : Bool}
theorem const_field {fuel : Nat} {cs : List Value} {x : DataW H × List MemPlace} (h : DataW.trod enc Tryz.prog w 0 (fun _ => true) held fuel 113 cs = some x) (hcs : cs.length = 5) (hL : Light Tryz.prog 113 x.1) {fs : Array Field} (hf : Tryz.prog.underlying 113 = some (.struct fs)) (hone : oneCellFields Tryz.prog fs = true) (hfs : fs.size = 5) {j : Nat} {f : Field} (hj : fs[j]? = some f) :
  ∃ v n y, cs[j]? = some v ∧ DataW.trod enc Tryz.prog w 0 (fun _ => true) held n f.type [v] = some y ∧ Light Tryz.prog f.type y.1 ∧ Rows.uptoBulk y.1 ≤ Rows.uptoBulk x.1 := by
 obtain ⟨xs, n, _, rfl, _, hxl, hg⟩ := DataW.trod_struct hf h
 obtain ⟨ho, hk⟩ := hone_of hone j f hj
 have hjs : j < fs.size := (Array.getElem?_eq_some_iff.1 hj).1
 have hjc : j < cs.length := by omega
 have h1 := hg j f hj
 rw [ho, hk, List.drop_eq_getElem_cons hjc] at h1
 have hx : xs[j]? = some (xs[j]'(by omega)) := List.getElem?_eq_getElem (by omega)
 refine ⟨cs[j], n, xs[j]'(by omega), List.getElem?_eq_getElem hjc, h1.trans hx, light_field hf hL hj (by simp [hx]), ?_⟩
 simp only [Rows.uptoBulk]
 have := bulk_mem (l := xs.map (·.1)) (d := (xs[j]'(by omega)).1) (List.mem_map.2 ⟨_, List.getElem_mem _, rfl⟩)
 omega
set_option maxRecDepth 100000 in
theorem open_const {fuel : Nat} {cs : List Value} {x : DataW H × List MemPlace} (h : DataW.trod enc Tryz.prog w 0 (fun _ => true) held fuel 113 cs = some x) (hcs : cs.length = 5) (hL : Light Tryz.prog 113 x.1) :
  ∃ c : ConstV, cs = [.int .i64 c.tag, .string c.text, .int .i64 c.n, .int .i64 c.a, .int .i64 c.b] ∧ ConstR c ∧ c.text.size ≤ Rows.uptoBulk x.1 := by
 have F := fun j f hj => const_field (j := j) (f := f) h hcs hL Tryz.underlying113 (by kernel_rfl) (by kernel_rfl) hj
 obtain ⟨v0, n0, y0, d0, t0, _, _⟩ := F 0 _ rfl
 obtain ⟨v1, n1, y1, d1, t1, l1, b1⟩ := F 1 _ rfl
 obtain ⟨v2, n2, y2, d2, t2, _, _⟩ := F 2 _ rfl
 obtain ⟨v3, n3, y3, d3, t3, _, _⟩ := F 3 _ rfl
 obtain ⟨v4, n4, y4, d4, t4, _, _⟩ := F 4 _ rfl
 obtain ⟨k0, e0, _, w0⟩ := DataW.trod_int Tryz.underlying3 t0
 obtain ⟨s, e1, ey, w1⟩ := DataW.trod_string Tryz.underlying9 t1
 obtain ⟨k2, e2, _, w2⟩ := DataW.trod_int Tryz.underlying2 t2
 obtain ⟨k3, e3, _, w3⟩ := DataW.trod_int Tryz.underlying3 t3
 obtain ⟨k4, e4, _, w4⟩ := DataW.trod_int Tryz.underlying3 t4
 simp only [List.cons.injEq, and_true] at e0 e1 e2 e3 e4
 subst e0 e1 e2 e3 e4 ey
 have hsz : s.size ≤ 140737488351232 := by
  have := l1 s.data.toList.length (by simp [DataW.weights])
  simpa [reachBytes] using this
 have hbk : s.size ≤ Rows.uptoBulk x.1 := by
  simp only [Rows.uptoBulk] at b1
  have : s.data.toList.length = s.size := by simp
  omega
 refine ⟨⟨k0, s, k2, k3, k4⟩, ?_, ⟨bounds_i64 w0, bounds_i64 w2, bounds_i64 w3, bounds_i64 w4, hsz⟩, hbk⟩
 match cs, hcs with
 | [c0, c1, c2, c3, c4], _ =>
  simp only [List.getElem?_cons_zero, List.getElem?_cons_succ, Option.some.injEq] at d0 d1 d2 d3 d4
  rw [d0, d1, d2, d3, d4]
set_option maxRecDepth 100000 in
theorem open_pool {fuel : Nat} {cs : List Value} {x : DataW H × List MemPlace} (h : DataW.trod enc Tryz.prog w 0 (fun _ => true) held fuel 54 cs = some x) (hL : Light Tryz.prog 54 x.1) :
  ∃ v ks, cs = [v] ∧ Pool w v ks ∧ (∀ c ∈ ks, c.text.size ≤ Rows.uptoBulk x.1) ∧ ks.length * 48 ≤ 140737488351232 := by
 rcases Go.Deep.open_slice Tryz.underlying54 h with ⟨rfl, _⟩ | ⟨a, len, cap, m, n, D, Pl, rfl, _, hl, hm, hmm, rfl, hi⟩
 ·exact ⟨_, [], rfl, ⟨none, 0, rfl, Nat.le_refl _, by omega, fun _ => rfl, (fun c hc => by cases hc), fun x hx _ => by cases hx⟩, (fun c hc => by cases hc), by simp⟩
 ·simp only [if_true] at hmm
  subst hmm
  have hall : ∀ i, i < len → ∃ c : ConstV, (w.cells? 0 (a.add (i * 5)) 5 = some [.int .i64 c.tag, .string c.text, .int .i64 c.n, .int .i64 c.a, .int .i64 c.b]) ∧ ConstR c ∧ c.text.size ≤ Rows.uptoBulk (D i) := by
   intro i hil
   obtain ⟨cs', hcs', htr⟩ := hi i (by omega)
   rw [cells_const] at hcs'
   obtain ⟨_, hlen, _⟩ := World.cells?_some hcs'
   have hLi : Light Tryz.prog 113 (D i) := light_elem Tryz.underlying54 hL (List.mem_map.2 ⟨i, List.mem_range.2 hil, rfl⟩)
   obtain ⟨c, rfl, hr, hb⟩ := open_const htr hlen hLi
   exact ⟨c, hcs', hr, hb⟩
  obtain ⟨f, hf⟩ := choose_lt hall
  have hget : ∀ i, i < len → ((List.range len).map f).getD i default = f i := fun i hi => by simp [List.getD, hi]
  refine ⟨_, (List.range len).map f, rfl, ⟨some a, _, by rw [List.length_map, List.length_range], by rw [List.length_map, List.length_range]; exact hl, by unfold maxLen at hm; omega, (fun e => by cases e), ?_, ?_⟩, ?_, ?_⟩
  ·intro c hc
   obtain ⟨i, hi2, rfl⟩ := List.mem_map.1 hc
   exact (hf i (List.mem_range.1 hi2)).2.1
  ·intro x hx h0
   cases hx
   rw [List.length_map, List.length_range] at h0
   have hcell : ∀ i, i < len → ∀ d u, ([.int .i64 (f i).tag, .string (f i).text, .int .i64 (f i).n, .int .i64 (f i).a, .int .i64 (f i).b] : List Value)[d]? = some u → w.cell? (a.add (i * 5 + d)) = some u := by
    intro i hi d u hu
    obtain ⟨_, _, hat⟩ := World.cells?_some (hf i hi).1
    have hd : d < 5 := by
     have := (List.getElem?_eq_some_iff.1 hu).1
     simpa using this
    have := hat d hd
    rw [Go.Deep.add_add] at this
    rw [this, hu]
   have hp := plain_of_cell (x := a) (by have := hcell 0 h0 0 _ rfl; simpa using this)
   refine ⟨a.block, a.off, hp, fun i hi => ?_⟩
   rw [List.length_map, List.length_range] at hi
   rw [hget i hi]
   have hc : ∀ d u, ([.int .i64 (f i).tag, .string (f i).text, .int .i64 (f i).n, .int .i64 (f i).a, .int .i64 (f i).b] : List Value)[d]? = some u → w.cell? ⟨a.block, a.off + i * 5 + d, none⟩ = some u := fun d u hu => by
    have := hcell i hi d u hu
    rw [hp, add_lit] at this
    rw [Nat.add_assoc]
    exact this
   exact ⟨hc 0 _ rfl, hc 1 _ rfl, hc 2 _ rfl, hc 3 _ rfl, hc 4 _ rfl⟩
  ·intro c hc
   obtain ⟨i, hi2, rfl⟩ := List.mem_map.1 hc
   have h1 := (hf i (List.mem_range.1 hi2)).2.2
   have h2 := bulk_mem (l := (List.range len).map D) (d := D i) (List.mem_map.2 ⟨i, hi2, rfl⟩)
   simp only [Rows.uptoBulk]
   omega
  ·have h1 := light_len Tryz.underlying54 hL
   rw [bytes_const] at h1
   simp only [List.length_map, List.length_range, reachBytes] at h1 ⊢
   omega
end
end Go.Proofs.YtinbelghhfodiaaGreatDoor
namespace Go.Proofs.YtinbelghhfodiaaGreatDoor
set_option maxHeartbeats 2000000
open Lib (hid)
open Go.RowKit
set_option linter.unusedVariables false
set_option linter.unusedSimpArgs false
structure FieldV where
 flags : Int
 name : Int
 desc : Int
instance : Inhabited FieldV := ⟨⟨0, 0, 0⟩⟩
structure TrapV where
 from_ : Int
 to_ : Int
 hand : Int
 type : Int
instance : Inhabited TrapV := ⟨⟨0, 0, 0, 0⟩⟩
structure MethodV where
 flags : Int
 name : Int
 desc : Int
 stack : Int
 locals : Int
 code : List Int
 traps : List TrapV
 maps : List Int
instance : Inhabited MethodV := ⟨⟨0, 0, 0, 0, 0, [], [], []⟩⟩
structure ClassV where
 pool : List ConstV
 this : Int
 super : Int
 fields : List FieldV
 methods : List MethodV
def Sl (v : Value) (n : Nat) (At : Nat → Nat → Nat → Prop) : Prop :=
 ∃ ao cap, v = .slice ao n cap ∧ n ≤ cap ∧ cap ≤ 9223372036854775807 ∧ (ao = none → cap = 0) ∧ ∀ x, ao = some x → 0 < n → ∃ b o, x = ⟨b, o, none⟩ ∧ ∀ i, i < n → At b o i
theorem Sl.imp {v : Value} {n : Nat} {At At' : Nat → Nat → Nat → Prop} (h : Sl v n At) (hi : ∀ b o i, v.ownBlock = some b → i < n → At b o i → At' b o i) : Sl v n At' := by
 obtain ⟨ao, cap, rfl, h1, h2, h3, h4⟩ := h
 refine ⟨ao, cap, rfl, h1, h2, h3, fun x hx h0 => ?_⟩
 obtain ⟨b, o, rfl, h5⟩ := h4 x hx h0
 subst hx
 exact ⟨b, o, rfl, fun i hl => hi b o i rfl hl (h5 i hl)⟩
theorem Sl.at {ao : Option Addr} {n cap : Nat} {At : Nat → Nat → Nat → Prop} (h : Sl (.slice ao n cap) n At) {i : Nat} (hi : i < n) : ∃ b o, ao = some ⟨b, o, none⟩ ∧ At b o i := by
 obtain ⟨ao', cap', e, h1, h2, h3, h4⟩ := h
 injection e with e1 _ e3
 subst e1 e3
 cases ao with
 | none => have := h3 rfl; omega
 | some x =>
  obtain ⟨b, o, rfl, h5⟩ := h4 x rfl (by omega)
  exact ⟨b, o, rfl, h5 i hi⟩
theorem Sl.slice {v : Value} {n : Nat} {At : Nat → Nat → Nat → Prop} (h : Sl v n At) : ∃ ao cap, v = .slice ao n cap ∧ n ≤ cap ∧ cap ≤ 9223372036854775807 := by
 obtain ⟨ao, cap, e, h1, h2, _⟩ := h
 exact ⟨ao, cap, e, h1, h2⟩
theorem Sl.nil (At : Nat → Nat → Nat → Prop) : Sl (.slice none 0 0) 0 At := ⟨none, 0, rfl, Nat.le_refl _, by omega, fun _ => rfl, fun x hx => by cases hx⟩
structure FieldAt (w : World) (b o i : Nat) (f : FieldV) : Prop where
 c0 : w.cell? ⟨b, o + i * 3, none⟩ = some (.int .i64 f.flags)
 c1 : w.cell? ⟨b, o + i * 3 + 1, none⟩ = some (.int .i64 f.name)
 c2 : w.cell? ⟨b, o + i * 3 + 2, none⟩ = some (.int .i64 f.desc)
structure TrapAt (w : World) (b o i : Nat) (t : TrapV) : Prop where
 c0 : w.cell? ⟨b, o + i * 4, none⟩ = some (.int .i64 t.from_)
 c1 : w.cell? ⟨b, o + i * 4 + 1, none⟩ = some (.int .i64 t.to_)
 c2 : w.cell? ⟨b, o + i * 4 + 2, none⟩ = some (.int .i64 t.hand)
 c3 : w.cell? ⟨b, o + i * 4 + 3, none⟩ = some (.int .i64 t.type)
structure MethodAt (w : World) (b o i : Nat) (m : MethodV) (vc vt vm : Value) : Prop where
 c0 : w.cell? ⟨b, o + i * 8, none⟩ = some (.int .i64 m.flags)
 c1 : w.cell? ⟨b, o + i * 8 + 1, none⟩ = some (.int .i64 m.name)
 c2 : w.cell? ⟨b, o + i * 8 + 2, none⟩ = some (.int .i64 m.desc)
 c3 : w.cell? ⟨b, o + i * 8 + 3, none⟩ = some (.int .i64 m.stack)
 c4 : w.cell? ⟨b, o + i * 8 + 4, none⟩ = some (.int .i64 m.locals)
 c5 : w.cell? ⟨b, o + i * 8 + 5, none⟩ = some vc
 c6 : w.cell? ⟨b, o + i * 8 + 6, none⟩ = some vt
 c7 : w.cell? ⟨b, o + i * 8 + 7, none⟩ = some vm
def FieldR (f : FieldV) : Prop := I64 f.flags ∧ I64 f.name ∧ I64 f.desc
def TrapR (t : TrapV) : Prop := I64 t.from_ ∧ I64 t.to_ ∧ I64 t.hand ∧ I64 t.type
def MethodR (m : MethodV) : Prop := I64 m.flags ∧ I64 m.name ∧ I64 m.desc ∧ I64 m.stack ∧ I64 m.locals
def Fields (w : World) (v : Value) (fs : List FieldV) : Prop := Sl v fs.length (fun b o i => FieldAt w b o i (fs.getD i default)) ∧ ∀ f ∈ fs, FieldR f
def Traps (w : World) (v : Value) (ts : List TrapV) : Prop := Sl v ts.length (fun b o i => TrapAt w b o i (ts.getD i default)) ∧ ∀ t ∈ ts, TrapR t
def Inside (w : World) (m : MethodV) (vc vt vm : Value) : Prop := Bytes w vc m.code ∧ Traps w vt m.traps ∧ Bytes w vm m.maps
def Methods (w : World) (v : Value) (ms : List MethodV) : Prop :=
 ∃ f : Nat → Value × Value × Value, Sl v ms.length (fun b o i => MethodAt w b o i (ms.getD i default) (f i).1 (f i).2.1 (f i).2.2) ∧ (∀ i, i < ms.length → Inside w (ms.getD i default) (f i).1 (f i).2.1 (f i).2.2) ∧ ∀ m ∈ ms, MethodR m
def ClassM (w : World) (vp vf vm : Value) (c : ClassV) : Prop := Pool w vp c.pool ∧ Fields w vf c.fields ∧ Methods w vm c.methods ∧ I64 c.this ∧ I64 c.super
section
variable {w w' : World} (ho : Only (fun _ => False) w w')
include ho
theorem FieldAt.only {b o i : Nat} {f : FieldV} (h : FieldAt w b o i f) : FieldAt w' b o i f := ⟨ho.cell h.c0 (fun h => h), ho.cell h.c1 (fun h => h), ho.cell h.c2 (fun h => h)⟩
theorem TrapAt.only {b o i : Nat} {t : TrapV} (h : TrapAt w b o i t) : TrapAt w' b o i t := ⟨ho.cell h.c0 (fun h => h), ho.cell h.c1 (fun h => h), ho.cell h.c2 (fun h => h), ho.cell h.c3 (fun h => h)⟩
theorem MethodAt.only {b o i : Nat} {m : MethodV} {vc vt vm : Value} (h : MethodAt w b o i m vc vt vm) : MethodAt w' b o i m vc vt vm :=
 ⟨ho.cell h.c0 (fun h => h), ho.cell h.c1 (fun h => h), ho.cell h.c2 (fun h => h), ho.cell h.c3 (fun h => h), ho.cell h.c4 (fun h => h), ho.cell h.c5 (fun h => h), ho.cell h.c6 (fun h => h), ho.cell h.c7 (fun h => h)⟩
theorem Fields.only {v : Value} {fs : List FieldV} (h : Fields w v fs) : Fields w' v fs := ⟨h.1.imp (fun _ _ _ _ _ h => h.only ho), h.2⟩
theorem Traps.only {v : Value} {ts : List TrapV} (h : Traps w v ts) : Traps w' v ts := ⟨h.1.imp (fun _ _ _ _ _ h => h.only ho), h.2⟩
theorem Inside.only {m : MethodV} {vc vt vm : Value} (h : Inside w m vc vt vm) : Inside w' m vc vt vm := ⟨h.1.only ho (fun _ _ _ h => h), h.2.1.only ho, h.2.2.only ho (fun _ _ _ h => h)⟩
theorem Methods.only {v : Value} {ms : List MethodV} (h : Methods w v ms) : Methods w' v ms := by
 obtain ⟨f, h1, h2, h3⟩ := h
 exact ⟨f, h1.imp (fun _ _ _ _ _ h => h.only ho), fun i hi => (h2 i hi).only ho, h3⟩
theorem ClassM.only {vp vf vm : Value} {c : ClassV} (h : ClassM w vp vf vm c) : ClassM w' vp vf vm c := ⟨Pool.only h.1 ho (fun _ _ h => h), h.2.1.only ho, h.2.2.1.only ho, h.2.2.2⟩
end
theorem getD_mem {α : Type} [Inhabited α] {l : List α} {i : Nat} (h : i < l.length) : l.getD i default ∈ l := by
 have e : l.getD i default = l[i] := by simp [List.getD, h]
 rw [e]
 exact List.getElem_mem h
end Go.Proofs.YtinbelghhfodiaaGreatDoor
namespace Go.Proofs.YtinbelghhfodiaaGreatDoor
set_option maxHeartbeats 2000000
open Lib (hid)
open Go.ChangeShapes Go.WideShapes Go.ChangeAt Go.RowKit Go.Deep
set_option linter.unusedVariables false
set_option linter.unusedSimpArgs false
theorem cells_field : Tryz.prog.cellsOf 151 = 3 := by kernel_rfl
theorem cells_trap : Tryz.prog.cellsOf 190 = 4 := by kernel_rfl
theorem cells_method : Tryz.prog.cellsOf 63 = 8 := by kernel_rfl
section
variable {H : Type} {enc : TypeId × Value → H} {w : World} {held : Bool}
theorem int_field {T : TypeId} {fuel : Nat} {v : Value} {y : DataW H × List MemPlace} (hT : Tryz.prog.underlying T = some (.int .i64)) (t : DataW.trod enc Tryz.prog w 0 (fun _ => true) held fuel T [v] = some y) : ∃ n, v = .int .i64 n ∧ I64 n := by
 obtain ⟨k, e, _, wf⟩ := DataW.trod_int hT t
 simp only [List.cons.injEq, and_true] at e
 exact ⟨k, e, bounds_i64 wf⟩
set_option maxRecDepth 100000 in
theorem open_fieldV {fuel : Nat} {cs : List Value} {x : DataW H × List MemPlace} (h : DataW.trod enc Tryz.prog w 0 (fun _ => true) held fuel 151 cs = some x) (hcs : cs.length = 3) (hL : Light Tryz.prog 151 x.1) :
  ∃ f : FieldV, cs = [.int .i64 f.flags, .int .i64 f.name, .int .i64 f.desc] ∧ FieldR f := by
 have F := fun j f hj => open_field (j := j) (f := f) Tryz.underlying151 (by kernel_rfl) h hcs hL hj
 obtain ⟨v0, n0, y0, d0, t0, _⟩ := F 0 _ rfl
 obtain ⟨v1, n1, y1, d1, t1, _⟩ := F 1 _ rfl
 obtain ⟨v2, n2, y2, d2, t2, _⟩ := F 2 _ rfl
 obtain ⟨k0, rfl, r0⟩ := int_field Tryz.underlying3 t0
 obtain ⟨k1, rfl, r1⟩ := int_field Tryz.underlying3 t1
 obtain ⟨k2, rfl, r2⟩ := int_field Tryz.underlying3 t2
 refine ⟨⟨k0, k1, k2⟩, ?_, r0, r1, r2⟩
 match cs, hcs with
 | [c0, c1, c2], _ =>
  simp only [List.getElem?_cons_zero, List.getElem?_cons_succ, Option.some.injEq] at d0 d1 d2
  rw [d0, d1, d2]
set_option maxRecDepth 100000 in
theorem open_trapV {fuel : Nat} {cs : List Value} {x : DataW H × List MemPlace} (h : DataW.trod enc Tryz.prog w 0 (fun _ => true) held fuel 190 cs = some x) (hcs : cs.length = 4) (hL : Light Tryz.prog 190 x.1) :
  ∃ f : TrapV, cs = [.int .i64 f.from_, .int .i64 f.to_, .int .i64 f.hand, .int .i64 f.type] ∧ TrapR f := by
 have F := fun j f hj => open_field (j := j) (f := f) Tryz.underlying190 (by kernel_rfl) h hcs hL hj
 obtain ⟨v0, n0, y0, d0, t0, _⟩ := F 0 _ rfl
 obtain ⟨v1, n1, y1, d1, t1, _⟩ := F 1 _ rfl
 obtain ⟨v2, n2, y2, d2, t2, _⟩ := F 2 _ rfl
 obtain ⟨v3, n3, y3, d3, t3, _⟩ := F 3 _ rfl
 obtain ⟨k0, rfl, r0⟩ := int_field Tryz.underlying3 t0
 obtain ⟨k1, rfl, r1⟩ := int_field Tryz.underlying3 t1
 obtain ⟨k2, rfl, r2⟩ := int_field Tryz.underlying3 t2
 obtain ⟨k3, rfl, r3⟩ := int_field Tryz.underlying3 t3
 refine ⟨⟨k0, k1, k2, k3⟩, ?_, r0, r1, r2, r3⟩
 match cs, hcs with
 | [c0, c1, c2, c3], _ =>
  simp only [List.getElem?_cons_zero, List.getElem?_cons_succ, Option.some.injEq] at d0 d1 d2 d3
  rw [d0, d1, d2, d3]
theorem open_sl {β : Type} [Inhabited β] {t e : TypeId} {k : Nat} (ht : Tryz.prog.underlying t = some (.slice e)) (hk : Tryz.prog.cellsOf e = k) (hk0 : 0 < k) (R : β → List Value → Prop) (hne : ∀ z cs, R z cs → cs.length = k)
  (hopen : ∀ {fuel : Nat} {cs : List Value} {x : DataW H × List MemPlace}, DataW.trod enc Tryz.prog w 0 (fun _ => true) held fuel e cs = some x → cs.length = k → Light Tryz.prog e x.1 → ∃ z, R z cs)
  {fuel : Nat} {cs : List Value} {x : DataW H × List MemPlace} (h : DataW.trod enc Tryz.prog w 0 (fun _ => true) held fuel t cs = some x) (hL : Light Tryz.prog t x.1) :
  ∃ (v : Value) (zs : List β), cs = [v] ∧ Sl v zs.length (fun b o i => ∃ es, R (zs.getD i default) es ∧ ∀ d u, es[d]? = some u → w.cell? ⟨b, o + i * k + d, none⟩ = some u) ∧ (∀ z ∈ zs, ∃ es, R z es) := by
 rcases Go.Deep.open_slice ht h with ⟨rfl, _⟩ | ⟨a, len, cap, m, n, D, Pl, rfl, _, hl, hm, hmm, rfl, hi⟩
 ·exact ⟨_, [], rfl, Sl.nil _, fun z hz => by cases hz⟩
 ·simp only [if_true] at hmm
  subst hmm
  have hall : ∀ i, i < len → ∃ z : β, ∃ es, R z es ∧ w.cells? 0 (a.add (i * k)) k = some es := by
   intro i hil
   obtain ⟨es, hcs', htr⟩ := hi i (by omega)
   rw [hk] at hcs'
   obtain ⟨_, hlen, _⟩ := World.cells?_some hcs'
   have hLi : Light Tryz.prog e (D i) := light_elem ht hL (List.mem_map.2 ⟨i, List.mem_range.2 hil, rfl⟩)
   obtain ⟨z, hz⟩ := hopen htr hlen hLi
   exact ⟨z, es, hz, hcs'⟩
  obtain ⟨f, hf⟩ := choose_lt hall
  have hget : ∀ i, i < len → ((List.range len).map f).getD i default = f i := fun i hi => by simp [List.getD, hi]
  refine ⟨_, (List.range len).map f, rfl, ⟨some a, _, by rw [List.length_map, List.length_range], by rw [List.length_map, List.length_range]; exact hl, by unfold maxLen at hm; omega, (fun e => by cases e), fun x hx h0 => ?_⟩, ?_⟩
  ·cases hx
   rw [List.length_map, List.length_range] at h0
   have hcell : ∀ i, i < len → ∃ es, R (f i) es ∧ ∀ d u, es[d]? = some u → w.cell? (a.add (i * k + d)) = some u := by
    intro i hi
    obtain ⟨es, hz, hcs'⟩ := hf i hi
    refine ⟨es, hz, fun d u hu => ?_⟩
    obtain ⟨_, hlen, hat⟩ := World.cells?_some hcs'
    have hd : d < k := by
     have := (List.getElem?_eq_some_iff.1 hu).1
     omega
    have := hat d hd
    rw [Go.Deep.add_add] at this
    rw [this, hu]
   obtain ⟨es0, hz0, hc0⟩ := hcell 0 h0
   have hp := plain_of_cell (x := a) (u := es0[0]'(by rw [hne _ _ hz0]; exact hk0)) (by have := hc0 0 _ (List.getElem?_eq_getElem (by rw [hne _ _ hz0]; exact hk0)); simpa using this)
   refine ⟨a.block, a.off, hp, fun i hi => ?_⟩
   rw [List.length_map, List.length_range] at hi
   rw [hget i hi]
   obtain ⟨es, hz, hc⟩ := hcell i hi
   refine ⟨es, hz, fun d u hu => ?_⟩
   have := hc d u hu
   rw [hp, add_lit] at this
   rw [Nat.add_assoc]
   exact this
  ·intro z hz
   obtain ⟨i, hi2, rfl⟩ := List.mem_map.1 hz
   obtain ⟨es, h1, _⟩ := hf i (List.mem_range.1 hi2)
   exact ⟨es, h1⟩
theorem open_fields {fuel : Nat} {cs : List Value} {x : DataW H × List MemPlace} (h : DataW.trod enc Tryz.prog w 0 (fun _ => true) held fuel 81 cs = some x) (hL : Light Tryz.prog 81 x.1) : ∃ v fs, cs = [v] ∧ Fields w v fs := by
 obtain ⟨v, fs, rfl, hs, hr⟩ := open_sl (β := FieldV) Tryz.underlying81 cells_field (by decide) (fun f cs => cs = [.int .i64 f.flags, .int .i64 f.name, .int .i64 f.desc] ∧ FieldR f) (fun z cs h => by rw [h.1]; rfl) open_fieldV h hL
 refine ⟨v, fs, rfl, hs.imp (fun b o i _ hi ⟨es, ⟨he, _⟩, hc⟩ => ?_), fun f hf => (hr f hf).elim (fun _ h => h.2)⟩
 subst he
 exact ⟨hc 0 _ rfl, hc 1 _ rfl, hc 2 _ rfl⟩
theorem open_traps {fuel : Nat} {cs : List Value} {x : DataW H × List MemPlace} (h : DataW.trod enc Tryz.prog w 0 (fun _ => true) held fuel 61 cs = some x) (hL : Light Tryz.prog 61 x.1) : ∃ v fs, cs = [v] ∧ Traps w v fs := by
 obtain ⟨v, fs, rfl, hs, hr⟩ := open_sl (β := TrapV) Tryz.underlying61 cells_trap (by decide) (fun f cs => cs = [.int .i64 f.from_, .int .i64 f.to_, .int .i64 f.hand, .int .i64 f.type] ∧ TrapR f) (fun z cs h => by rw [h.1]; rfl) open_trapV h hL
 refine ⟨v, fs, rfl, hs.imp (fun b o i _ hi ⟨es, ⟨he, _⟩, hc⟩ => ?_), fun f hf => (hr f hf).elim (fun _ h => h.2)⟩
 subst he
 exact ⟨hc 0 _ rfl, hc 1 _ rfl, hc 2 _ rfl, hc 3 _ rfl⟩
set_option maxRecDepth 100000 in
theorem open_methodV {fuel : Nat} {cs : List Value} {x : DataW H × List MemPlace} (h : DataW.trod enc Tryz.prog w 0 (fun _ => true) held fuel 63 cs = some x) (hcs : cs.length = 8) (hL : Light Tryz.prog 63 x.1) :
  ∃ q : MethodV × Value × Value × Value, cs = [.int .i64 q.1.flags, .int .i64 q.1.name, .int .i64 q.1.desc, .int .i64 q.1.stack, .int .i64 q.1.locals, q.2.1, q.2.2.1, q.2.2.2] ∧ MethodR q.1 ∧ Inside w q.1 q.2.1 q.2.2.1 q.2.2.2 ∧ q.1.code.length ≤ 140737488351232 ∧ q.1.maps.length ≤ 140737488351232 := by
 have F := fun j f hj => open_field (j := j) (f := f) Tryz.underlying63 (by kernel_rfl) h hcs hL hj
 obtain ⟨v0, n0, y0, d0, t0, _⟩ := F 0 _ rfl
 obtain ⟨v1, n1, y1, d1, t1, _⟩ := F 1 _ rfl
 obtain ⟨v2, n2, y2, d2, t2, _⟩ := F 2 _ rfl
 obtain ⟨v3, n3, y3, d3, t3, _⟩ := F 3 _ rfl
 obtain ⟨v4, n4, y4, d4, t4, _⟩ := F 4 _ rfl
 obtain ⟨v5, n5, y5, d5, t5, l5⟩ := F 5 _ rfl
 obtain ⟨v6, n6, y6, d6, t6, l6⟩ := F 6 _ rfl
 obtain ⟨v7, n7, y7, d7, t7, l7⟩ := F 7 _ rfl
 obtain ⟨k0, rfl, r0⟩ := int_field Tryz.underlying3 t0
 obtain ⟨k1, rfl, r1⟩ := int_field Tryz.underlying3 t1
 obtain ⟨k2, rfl, r2⟩ := int_field Tryz.underlying3 t2
 obtain ⟨k3, rfl, r3⟩ := int_field Tryz.underlying3 t3
 obtain ⟨k4, rfl, r4⟩ := int_field Tryz.underlying3 t4
 obtain ⟨vc, zc, e5, hc, lc⟩ := open_bytes Tryz.underlying55 Tryz.underlying5 (by kernel_rfl) (by kernel_rfl) t5 l5
 obtain ⟨vt, ts, e6, ht⟩ := open_traps t6 l6
 obtain ⟨vm, zm, e7, hm, lm⟩ := open_bytes Tryz.underlying55 Tryz.underlying5 (by kernel_rfl) (by kernel_rfl) t7 l7
 simp only [List.cons.injEq, and_true] at e5 e6 e7
 subst e5 e6 e7
 refine ⟨(⟨k0, k1, k2, k3, k4, zc, ts, zm⟩, v5, v6, v7), ?_, ⟨r0, r1, r2, r3, r4⟩, ⟨hc, ht, hm⟩, lc, lm⟩
 match cs, hcs with
 | [c0, c1, c2, c3, c4, c5, c6, c7], _ =>
  simp only [List.getElem?_cons_zero, List.getElem?_cons_succ, Option.some.injEq] at d0 d1 d2 d3 d4 d5 d6 d7
  rw [d0, d1, d2, d3, d4, d5, d6, d7]
def Short (ms : List MethodV) : Prop := ∀ m ∈ ms, m.code.length ≤ 140737488351232 ∧ m.maps.length ≤ 140737488351232
theorem open_methods {fuel : Nat} {cs : List Value} {x : DataW H × List MemPlace} (h : DataW.trod enc Tryz.prog w 0 (fun _ => true) held fuel 82 cs = some x) (hL : Light Tryz.prog 82 x.1) : ∃ v ms, cs = [v] ∧ Methods w v ms ∧ Short ms := by
 obtain ⟨v, zs, rfl, hs, hr⟩ := open_sl (β := MethodV × Value × Value × Value) Tryz.underlying82 cells_method (by decide)
  (fun q cs => cs = [.int .i64 q.1.flags, .int .i64 q.1.name, .int .i64 q.1.desc, .int .i64 q.1.stack, .int .i64 q.1.locals, q.2.1, q.2.2.1, q.2.2.2] ∧ MethodR q.1 ∧ Inside w q.1 q.2.1 q.2.2.1 q.2.2.2 ∧ q.1.code.length ≤ 140737488351232 ∧ q.1.maps.length ≤ 140737488351232) (fun z cs h => by rw [h.1]; rfl) open_methodV h hL
 have hget : ∀ i, i < zs.length → (zs.map (·.1)).getD i default = (zs.getD i default).1 := fun i hi => by simp [List.getD, hi]
 have hmem : ∀ m ∈ zs.map (·.1), ∃ q ∈ zs, q.1 = m := fun m hm => by
  obtain ⟨q, hq, rfl⟩ := List.mem_map.1 hm
  exact ⟨q, hq, rfl⟩
 refine ⟨v, zs.map (·.1), rfl, ⟨fun i => (zs.getD i default).2, ?_, ?_, ?_⟩, ?_⟩
 ·rw [List.length_map]
  refine hs.imp (fun b o i _ hi ⟨es, ⟨he, _⟩, hc⟩ => ?_)
  subst he
  rw [hget i hi]
  exact ⟨hc 0 _ rfl, hc 1 _ rfl, hc 2 _ rfl, hc 3 _ rfl, hc 4 _ rfl, hc 5 _ rfl, hc 6 _ rfl, hc 7 _ rfl⟩
 ·intro i hi
  rw [List.length_map] at hi
  rw [hget i hi]
  obtain ⟨es, _, _, h3, _⟩ := hr _ (getD_mem hi)
  exact h3
 ·intro m hm
  obtain ⟨q, hq, rfl⟩ := hmem m hm
  obtain ⟨es, _, h2, _⟩ := hr q hq
  exact h2
 ·intro m hm
  obtain ⟨q, hq, rfl⟩ := hmem m hm
  obtain ⟨es, _, _, _, h4, h5⟩ := hr q hq
  exact ⟨h4, h5⟩
theorem field_bulk {t : TypeId} {fuel : Nat} {cs : List Value} {x : DataW H × List MemPlace} (h : DataW.trod enc Tryz.prog w 0 (fun _ => true) held fuel t cs = some x) {fs : Array Field} {k : Nat} (hcs : cs.length = k) (hL : Light Tryz.prog t x.1) (hf : Tryz.prog.underlying t = some (.struct fs)) (hone : oneCellFields Tryz.prog fs = true) (hfs : fs.size = k) {j : Nat} {f : Field} (hj : fs[j]? = some f) :
  ∃ v n y, cs[j]? = some v ∧ DataW.trod enc Tryz.prog w 0 (fun _ => true) held n f.type [v] = some y ∧ Light Tryz.prog f.type y.1 ∧ Rows.uptoBulk y.1 ≤ Rows.uptoBulk x.1 := by
 obtain ⟨xs, n, _, rfl, _, hxl, hg⟩ := DataW.trod_struct hf h
 obtain ⟨ho, hk⟩ := hone_of hone j f hj
 have hjs : j < fs.size := (Array.getElem?_eq_some_iff.1 hj).1
 have hjc : j < cs.length := by omega
 have h1 := hg j f hj
 rw [ho, hk, List.drop_eq_getElem_cons hjc] at h1
 have hx : xs[j]? = some (xs[j]'(by omega)) := List.getElem?_eq_getElem (by omega)
 refine ⟨cs[j], n, xs[j]'(by omega), List.getElem?_eq_getElem hjc, h1.trans hx, light_field hf hL hj (by simp [hx]), ?_⟩
 simp only [Rows.uptoBulk]
 have := bulk_mem (l := xs.map (·.1)) (d := (xs[j]'(by omega)).1) (List.mem_map.2 ⟨_, List.getElem_mem _, rfl⟩)
 omega
set_option maxRecDepth 100000 in
theorem open_class {fuel : Nat} {cs : List Value} {x : DataW H × List MemPlace} (h : DataW.trod enc Tryz.prog w 0 (fun _ => true) held fuel 84 cs = some x) (hcs : cs.length = 5) (hL : Light Tryz.prog 84 x.1) :
  ∃ vp vf vm c, cs = [vp, .int .i64 c.this, .int .i64 c.super, vf, vm] ∧ ClassM w vp vf vm c ∧ Short c.methods ∧ ∀ k ∈ c.pool, k.text.size ≤ Rows.uptoBulk x.1 := by
 have F := fun j f hj => field_bulk (j := j) (f := f) h hcs hL Tryz.underlying84 (by kernel_rfl) (by kernel_rfl) hj
 obtain ⟨v0, n0, y0, d0, t0, l0, b0⟩ := F 0 _ rfl
 obtain ⟨v1, n1, y1, d1, t1, _⟩ := F 1 _ rfl
 obtain ⟨v2, n2, y2, d2, t2, _⟩ := F 2 _ rfl
 obtain ⟨v3, n3, y3, d3, t3, l3, _⟩ := F 3 _ rfl
 obtain ⟨v4, n4, y4, d4, t4, l4, _⟩ := F 4 _ rfl
 obtain ⟨vp, ks, e0, hp, hbulk, _⟩ := open_pool t0 l0
 obtain ⟨k1, rfl, r1⟩ := int_field Tryz.underlying3 t1
 obtain ⟨k2, rfl, r2⟩ := int_field Tryz.underlying3 t2
 obtain ⟨vf, fs, e3, hf⟩ := open_fields t3 l3
 obtain ⟨vm, ms, e4, hm, hsh⟩ := open_methods t4 l4
 simp only [List.cons.injEq, and_true] at e0 e3 e4
 subst e0 e3 e4
 refine ⟨v0, v3, v4, ⟨ks, k1, k2, fs, ms⟩, ?_, ⟨hp, hf, hm, r1, r2⟩, hsh, fun k hk => Nat.le_trans (hbulk k hk) b0⟩
 match cs, hcs with
 | [c0, c1, c2, c3, c4], _ =>
  simp only [List.getElem?_cons_zero, List.getElem?_cons_succ, Option.some.injEq] at d0 d1 d2 d3 d4
  rw [d0, d1, d2, d3, d4]
end
end Go.Proofs.YtinbelghhfodiaaGreatDoor
namespace Go.Proofs.YtinbelghhfodiaaGreatDoor
set_option maxHeartbeats 2000000
open Lib (hid)
open Go.RowKit
set_option linter.unusedVariables false
set_option linter.unusedSimpArgs false
def badC (z : Int) : Bool := z == 46 || (z == 59 || (z == 91 || (z == 47 || (z == 60 || z == 62))))
def plainN (zs : List Int) : Bool := (decide (1 ≤ zs.length) && decide (zs.length ≤ 256)) && zs.all (fun z => !badC z)
theorem nums_at {s : ByteArray} {j : Nat} (h : j < s.size) : (nums s).getD j 0 = ((s[j].toNat : Nat) : Int) := by
 rw [nums_get]
 congr 1
 simp [ByteArray.get!, h]
 rfl
theorem badC_yes {z : Int} (h : badC z = true) : z = 46 ∨ z = 59 ∨ z = 91 ∨ z = 47 ∨ z = 60 ∨ z = 62 := by
 unfold badC at h
 simpa using h
theorem plainN_no {zs : List Int} {j : Nat} (hj : j < zs.length) (h : badC (zs.getD j 0) = true) : plainN zs = false := by
 unfold plainN
 have : zs.all (fun z => !badC z) = false := by
  rw [List.all_eq_false]
  refine ⟨zs[j], List.getElem_mem hj, ?_⟩
  rw [show zs.getD j 0 = zs[j] by simp [List.getD, hj]] at h
  rw [h]; decide
 rw [this, Bool.and_false]
theorem plainN_yes {zs : List Int} (h1 : 1 ≤ zs.length) (h2 : zs.length ≤ 256) (h : ∀ j, j < zs.length → badC (zs.getD j 0) = false) : plainN zs = true := by
 unfold plainN
 simp only [h1, h2, decide_true, Bool.and_self, Bool.true_and, List.all_eq_true]
 intro z hz
 obtain ⟨j, hj, rfl⟩ := List.getElem_of_mem hz
 have := h j hj
 rw [show zs.getD j 0 = zs[j] by simp [List.getD, hj]] at this
 rw [this]; rfl
theorem badC_no {z : Int} (h : badC z = false) : (z == 46) = false ∧ (z == 59) = false ∧ (z == 91) = false ∧ (z == 47) = false ∧ (z == 60) = false ∧ (z == 62) = false := by
 unfold badC at h
 simp only [Bool.or_eq_false_iff] at h
 exact ⟨h.1, h.2.1, h.2.2.1, h.2.2.2.1, h.2.2.2.2.1, h.2.2.2.2.2⟩
set_option maxRecDepth 100000 in
theorem refPlainN (s : ByteArray) (w : World) (hs : s.size ≤ 281474976710656) :
  Calls Tryz.prog 36 #[.string s] w fun e w' => e = .returned (.bool (plainN (nums s))) ∧ w = w' := by
 have hl := nums_len s
 by_cases h1 : s.size < 1
 ·have HP := hid (show plainN (nums s) = false by unfold plainN; rw [hl]; simp; omega)
  have h1z : (s.size : Int) < 1 := by omega
  clear hl
  go_enter Tryz.func36, Tryz.ntmps36
  go_wp2
  go_ret
  rw [HP.out]
  exact ⟨rfl, rfl⟩
 by_cases h2 : 256 < s.size
 ·have HP := hid (show plainN (nums s) = false by unfold plainN; rw [hl]; simp; omega)
  have h2z : 256 < (s.size : Int) := by omega
  have h1z : ¬ (s.size : Int) < 1 := by omega
  clear hl
  go_enter Tryz.func36, Tryz.ntmps36
  go_wp2
  go_ret
  rw [HP.out]
  exact ⟨rfl, rfl⟩
 have h2z : ¬ 256 < (s.size : Int) := by omega
 have h1z : ¬ (s.size : Int) < 1 := by omega
 have HL := hid hl
 clear hl
 go_enter Tryz.func36, Tryz.ntmps36
 go_wp2
 go_loop [3] (fun i => ∃ j : Nat, i = .int .i64 j ∧ j ≤ s.size ∧ ∀ n, n < j → badC ((nums s).getD n 0) = false) (fun i => s.size - (intOf i).toNat)
 case atStart => exact ⟨0, rfl, Nat.zero_le _, fun n hn => by omega⟩
 case round =>
  obtain ⟨j, rfl, hj, hbef⟩ := hrel
  have HBEF := hid hbef
  clear hbef
  by_cases hlt : j < s.size
  ·have hjz : (j : Int) < (s.size : Int) := by omega
   have hg := nums_at hlt
   cases hbc : badC ((nums s).getD j 0)
   ·have HNX : Hid (∀ n, n < j + 1 → badC ((nums s).getD n 0) = false) := by
     refine hid ?_
     intro n hnj
     by_cases hkj : n < j
     ·exact HBEF.out n hkj
     ·rw [show n = j by omega]; exact hbc
    rw [hg] at hbc
    obtain ⟨b1, b2, b3, b4, b5, b6⟩ := badC_no hbc
    clear hbc hg
    go_wp2
    go_round
    case rel => exact ⟨j + 1, by go_num, by omega, HNX.out⟩
    case measure => simp [intOf]; omega
   ·have HP := hid (plainN_no (by rw [HL.out]; exact hlt) hbc)
    rw [hg] at hbc
    clear hg
    rcases badC_yes hbc with h | h | h | h | h | h
    all_goals
     clear hbc
     go_wp2
     go_ret
     rw [HP.out]
     exact ⟨rfl, rfl⟩
  ·have HP := hid (plainN_yes (by rw [HL.out]; omega) (by rw [HL.out]; omega) (fun n hn => HBEF.out n (by rw [HL.out] at hn; omega)))
   obtain rfl : j = s.size := by omega
   clear hlt hj
   go_wp2
   go_ret
   rw [HP.out]
   exact ⟨rfl, rfl⟩
structure TypeV where
 k : Int
 name : ByteArray
 dims : Int
 elem : Int
 at_ : Int
deriving DecidableEq
def emptyB : ByteArray := ⟨#[]⟩
def zeroT : TypeV := ⟨0, ⟨#[]⟩, 0, 0, 0⟩
instance : Inhabited TypeV := ⟨zeroT⟩
def valT (t : TypeV) : Value := .agg #[.int .i64 t.k, .string t.name, .int .i64 t.dims, .int .i64 t.elem, .int .i64 t.at_]
def cellsTy (t : TypeV) : List Value := [.int .i64 t.k, .string t.name, .int .i64 t.dims, .int .i64 t.elem, .int .i64 t.at_]
theorem nums_extract (s : ByteArray) (a b : Nat) : nums (s.extract a b) = ((nums s).drop a).take (b - a) := by
 simp [nums, numsL, List.map_take, List.map_drop]
theorem nums_rest (s : ByteArray) (a : Nat) : nums (s.extract a s.size) = (nums s).drop a := by
 rw [nums_extract]
 apply List.take_of_length_le
 simp [nums_len]
theorem nums_inj {s t : ByteArray} (h : nums s = nums t) : s = t := by rw [← str_nums s, h, str_nums]
theorem str_of {s : ByteArray} {zs : List Int} (h : nums s = zs) : s = strOfNums zs := by rw [← h, str_nums]
def dimsZ : List Int → Nat
 | [] => 0
 | c :: r => if c = 91 then dimsZ r + 1 else 0
theorem dimsZ_le : ∀ zs : List Int, dimsZ zs ≤ zs.length
 | [] => Nat.le_refl _
 | c :: r => by
  unfold dimsZ
  have := dimsZ_le r
  split <;> simp <;> omega
def semiZ : List Int → Nat
 | [] => 0
 | c :: r => if c = 59 then 0 else semiZ r + 1
theorem semiZ_le : ∀ zs : List Int, semiZ zs ≤ zs.length
 | [] => Nat.le_refl _
 | c :: r => by
  unfold semiZ
  have := semiZ_le r
  split <;> simp <;> omega
def arrT (d : Nat) (k : Int) (nm : ByteArray) : TypeV := if 0 < d then ⟨5, nm, d, k, 0⟩ else ⟨k, nm, 0, 0, 0⟩
def baseZ (d : Nat) (zs : List Int) : Option (TypeV × List Int) :=
 match zs with
 | [] => none
 | c :: r =>
  if 4 < d then none
  else if c = 73 then some (arrT d 1 ⟨#[]⟩, r)
  else if c = 74 then some (arrT d 2 ⟨#[]⟩, r)
  else if c = 76 then
   if semiZ r = r.length then none
   else if plainN (r.take (semiZ r)) then some (arrT d 4 (strOfNums (r.take (semiZ r))), r.drop (semiZ r + 1)) else none
  else none
def fieldZ (zs : List Int) : Option (TypeV × List Int) := baseZ (dimsZ zs) (zs.drop (dimsZ zs))
def okF (r : Option (TypeV × List Int)) : Bool := r.isSome
def typF (r : Option (TypeV × List Int)) : TypeV := match r with | some q => q.1 | none => zeroT
def restF (r : Option (TypeV × List Int)) : ByteArray := match r with | some q => strOfNums q.2 | none => ⟨#[]⟩
theorem dims_step {zs : List Int} {j : Nat} (hj : j < zs.length) (hd : dimsZ zs = j + dimsZ (zs.drop j)) (h : zs.getD j 0 = 91) : dimsZ zs = (j + 1) + dimsZ (zs.drop (j + 1)) := by
 have hg : zs[j] = 91 := by rw [← h]; simp [List.getD, hj]
 rw [hd, List.drop_eq_getElem_cons hj]
 show j + dimsZ (zs[j] :: _) = _
 rw [dimsZ, if_pos hg]
 omega
theorem dims_stop {zs : List Int} {j : Nat} (hj : j ≤ zs.length) (hd : dimsZ zs = j + dimsZ (zs.drop j)) (h : j = zs.length ∨ zs.getD j 0 ≠ 91) : dimsZ zs = j := by
 rcases h with rfl | h
 ·rw [List.drop_length] at hd; simpa [dimsZ] using hd
 ·by_cases e : j = zs.length
  ·subst e; rw [List.drop_length] at hd; simpa [dimsZ] using hd
  ·have hlt : j < zs.length := by omega
   have hg : zs[j] ≠ 91 := by rw [← show zs.getD j 0 = zs[j] by simp [List.getD, hlt]]; exact h
   rw [List.drop_eq_getElem_cons hlt] at hd
   rw [hd]
   show j + dimsZ (zs[j] :: _) = j
   rw [dimsZ, if_neg hg]
   rfl
theorem semi_step {zs : List Int} {j : Nat} (hj : j < zs.length) (hd : semiZ zs = j + semiZ (zs.drop j)) (h : zs.getD j 0 ≠ 59) : semiZ zs = (j + 1) + semiZ (zs.drop (j + 1)) := by
 have hg : zs[j] ≠ 59 := by rw [← show zs.getD j 0 = zs[j] by simp [List.getD, hj]]; exact h
 rw [hd, List.drop_eq_getElem_cons hj]
 show j + semiZ (zs[j] :: _) = _
 rw [semiZ, if_neg hg]
 omega
theorem semi_stop {zs : List Int} {j : Nat} (hj : j ≤ zs.length) (hd : semiZ zs = j + semiZ (zs.drop j)) (h : j = zs.length ∨ zs.getD j 0 = 59) : semiZ zs = j := by
 by_cases e : j = zs.length
 ·subst e; rw [List.drop_length] at hd; simpa [semiZ] using hd
 ·have hlt : j < zs.length := by omega
  have hg : zs[j] = 59 := by
   rw [← show zs.getD j 0 = zs[j] by simp [List.getD, hlt]]
   rcases h with h | h
   ·exact absurd h e
   ·exact h
  rw [hd, List.drop_eq_getElem_cons hlt]
  show j + semiZ (zs[j] :: _) = j
  rw [semiZ, if_pos hg]
  rfl
theorem guard_type : Tryz.prog.eqGuardType Tryz.prog.depth 33 = false := by kernel_rfl
theorem held_type : Tryz.prog.stoodInHeld 33 = false := by kernel_rfl
theorem fields_type : Tryz.prog.underlying 33 = some (.struct (Tryz.prog.fieldsOf 33)) := by kernel_rfl
theorem list_type : (Tryz.prog.fieldsOf 33).toList.map (fun f => (f.name, f.type, f.offset)) = [("K", 3, 0), ("Name", 9, 1), ("Dims", 3, 2), ("Elem", 3, 3), ("At", 3, 4)] := by kernel_rfl
theorem toList_inj' {x y : ByteArray} (h : x.toList = y.toList) : x = y := by
 rw [ByteArray.toList_eq, ByteArray.toList_eq] at h
 obtain ⟨⟨x⟩⟩ := x
 obtain ⟨⟨y⟩⟩ := y
 simp at h
 rw [h]
def eqT (a b : TypeV) : Bool := decide (a = b)
theorem eqT_self (a : TypeV) : eqT a a = true := by unfold eqT; simp
theorem eql_type (i k : TypeV) (w : World) : (binOp .eql 33 (valT i) (valT k)).run Tryz.prog w = .ok (.bool (eqT i k)) w := by
 unfold valT
 rw [run_eql_struct, run_equalIn_agg w _ _ _ _ fields_type held_type]
 have h := list_type
 generalize (Tryz.prog.fieldsOf 33).toList = l at *
 rcases l with _ | ⟨f0, _ | ⟨f1, _ | ⟨f2, _ | ⟨f3, _ | ⟨f4, _ | _⟩⟩⟩⟩⟩
 any_goals (simp at h; done)
 ·simp only [List.map_cons, List.map_nil, List.cons.injEq, Prod.mk.injEq, and_true] at h
  obtain ⟨⟨a1, a2, a3⟩, ⟨b1, b2, b3⟩, ⟨c1, c2, c3⟩, ⟨d1, d2, d3⟩, e1, e2, e3⟩ := h
  obtain ⟨x0, x1, x2, x3, x4⟩ := i
  obtain ⟨y0, y1, y2, y3, y4⟩ := k
  have hs : (x1.toList == y1.toList) = decide (x1 = y1) := by
   by_cases h : x1 = y1
   ·subst h; simp
   ·simp only [h, decide_false, beq_eq_false_iff_ne]
    exact fun e => h (toList_inj' e)
  simp [Op.eqFields, a1, a2, a3, b1, b2, b3, c1, c2, c3, d1, d2, d3, e1, e2, e3, part, isAgg, run_underlying Tryz.underlying3, run_underlying Tryz.underlying9, go_sem, run_equalIn_int w _ _ _ _ _ _ Tryz.underlying3, run_equalIn_string w _ _ _ _ Tryz.underlying9, hs]
  unfold eqT
  repeat' split
  all_goals simp_all
end Go.Proofs.YtinbelghhfodiaaGreatDoor
