/- Plain words of layer 9: members, kinds, programs, as values; the document's own has, count. No condition but a length that leaves room. The document's own Find, Super, Tree. No condition but a length that leaves room. The document's own Sub, Own, Main of a program. No condition but a length that leaves room. The chain of supers in plain words; the document's own slots of a program. Condition: the program is small, its chains end. The document's own slots of an object, Look, Main. Condition: the program is small, its chains end, its names are each once. The document's own Field, Main of a program. Condition: the program is small, its chains end, its names are each once. -/
import Derived.Test.YtmakfnghkpdpkaaKndE
import Derived.Test.YtmakfnghkpdpkaaGClsR
import Derived.Deep.RegionHeld3
namespace Go.Proofs.Ytmakfnghkpdpkaa
open Go.RowKit
set_option linter.unusedVariables false
set_option linter.unusedSimpArgs false

structure MethN where
  name : ByteArray
  desc : ByteArray
  flags : Int
instance : Inhabited MethN := ⟨⟨⟨#[]⟩, ⟨#[]⟩, 0⟩⟩
structure KindV where
  name : ByteArray
  super : ByteArray
  fields : List MethN
  meths : List MethN
  place : Int
instance : Inhabited KindV := ⟨⟨⟨#[]⟩, ⟨#[]⟩, [], [], 0⟩⟩
structure MethNAt (w : World) (b o i : Nat) (m : MethN) : Prop where
  c0 : w.cell? ⟨b, o + i * 3, none⟩ = some (.string m.name)
  c1 : w.cell? ⟨b, o + i * 3 + 1, none⟩ = some (.string m.desc)
  c2 : w.cell? ⟨b, o + i * 3 + 2, none⟩ = some (.int .i64 m.flags)
def MethNs (w : World) (v : Value) (ms : List MethN) : Prop := Sl v ms.length (fun b o i => MethNAt w b o i (ms.getD i default))
structure KindAt (w : World) (b o i : Nat) (k : KindV) (vf vm : Value) : Prop where
  c0 : w.cell? ⟨b, o + i * 5, none⟩ = some (.string k.name)
  c1 : w.cell? ⟨b, o + i * 5 + 1, none⟩ = some (.string k.super)
  c2 : w.cell? ⟨b, o + i * 5 + 2, none⟩ = some vf
  c3 : w.cell? ⟨b, o + i * 5 + 3, none⟩ = some vm
  c4 : w.cell? ⟨b, o + i * 5 + 4, none⟩ = some (.int .i64 k.place)
/-- All kinds of a program, each with its members. -/
def Kinds (w : World) (v : Value) (ks : List KindV) : Prop :=
  ∃ f : Nat → Value × Value, Sl v ks.length (fun b o i => KindAt w b o i (ks.getD i default) (f i).1 (f i).2) ∧ ∀ i, i < ks.length → MethNs w (f i).1 (ks.getD i default).fields ∧ MethNs w (f i).2 (ks.getD i default).meths
structure ClassAt (w : World) (b o i : Nat) (c : ClassV) (vp vf vm : Value) : Prop where
  c0 : w.cell? ⟨b, o + i * 5, none⟩ = some vp
  c1 : w.cell? ⟨b, o + i * 5 + 1, none⟩ = some (.int .i64 c.this)
  c2 : w.cell? ⟨b, o + i * 5 + 2, none⟩ = some (.int .i64 c.super)
  c3 : w.cell? ⟨b, o + i * 5 + 3, none⟩ = some vf
  c4 : w.cell? ⟨b, o + i * 5 + 4, none⟩ = some vm
instance : Inhabited ClassV := ⟨⟨[], 0, 0, [], []⟩⟩
/-- A list of classes that is read. -/
def Classes (w : World) (v : Value) (cs : List ClassV) : Prop :=
  ∃ f : Nat → Value × Value × Value, Sl v cs.length (fun b o i => ClassAt w b o i (cs.getD i default) (f i).1 (f i).2.1 (f i).2.2) ∧ ∀ i, i < cs.length → ClassM w (f i).1 (f i).2.1 (f i).2.2 (cs.getD i default)
/-- A document's program in a block. -/
def DocP (w : World) (b : Nat) (ks : List KindV) (cs : List ClassV) : Prop :=
  ∃ vl vi, w.cell? ⟨b, 0, none⟩ = some vl ∧ w.cell? ⟨b, 1, none⟩ = some vi ∧ Kinds w vl ks ∧ Classes w vi cs
section
variable {w w' : World} (ho : Only (fun _ => False) w w')
include ho
theorem MethNs.only {v : Value} {ms : List MethN} (h : MethNs w v ms) : MethNs w' v ms := h.imp (fun _ _ _ _ _ h => ⟨ho.cell h.c0 (fun h => h), ho.cell h.c1 (fun h => h), ho.cell h.c2 (fun h => h)⟩)
theorem KindAt.only {b o i : Nat} {k : KindV} {vf vm : Value} (h : KindAt w b o i k vf vm) : KindAt w' b o i k vf vm := ⟨ho.cell h.c0 (fun h => h), ho.cell h.c1 (fun h => h), ho.cell h.c2 (fun h => h), ho.cell h.c3 (fun h => h), ho.cell h.c4 (fun h => h)⟩
theorem Kinds.only {v : Value} {ks : List KindV} (h : Kinds w v ks) : Kinds w' v ks := by
  obtain ⟨f, h1, h2⟩ := h
  exact ⟨f, h1.imp (fun _ _ _ _ _ h => h.only ho), fun i hi => ⟨(h2 i hi).1.only ho, (h2 i hi).2.only ho⟩⟩
theorem Classes.only {v : Value} {cs : List ClassV} (h : Classes w v cs) : Classes w' v cs := by
  obtain ⟨f, h1, h2⟩ := h
  exact ⟨f, h1.imp (fun _ _ _ _ _ h => ⟨ho.cell h.c0 (fun h => h), ho.cell h.c1 (fun h => h), ho.cell h.c2 (fun h => h), ho.cell h.c3 (fun h => h), ho.cell h.c4 (fun h => h)⟩), fun i hi => (h2 i hi).only ho⟩
theorem DocP.only {b : Nat} {ks : List KindV} {cs : List ClassV} (h : DocP w b ks cs) : DocP w' b ks cs := by
  obtain ⟨vl, vi, h1, h2, h3, h4⟩ := h
  exact ⟨vl, vi, ho.cell h1 (fun h => h), ho.cell h2 (fun h => h), h3.only ho, h4.only ho⟩
end
theorem Kinds.len {w : World} {v : Value} {ks : List KindV} (h : Kinds w v ks) : ∃ ao cap, v = .slice ao ks.length cap ∧ ks.length ≤ cap ∧ cap ≤ 9223372036854775807 := by
  obtain ⟨f, h1, _⟩ := h
  exact h1.slice
theorem Kinds.at {w : World} {ao : Option Addr} {cap : Nat} {ks : List KindV} (h : Kinds w (.slice ao ks.length cap) ks) {i : Nat} (hi : i < ks.length) : ∃ b o vf vm, ao = some ⟨b, o, none⟩ ∧ KindAt w b o i (ks.getD i default) vf vm ∧ MethNs w vf (ks.getD i default).fields ∧ MethNs w vm (ks.getD i default).meths := by
  obtain ⟨f, h1, h2⟩ := h
  obtain ⟨b, o, e, hc⟩ := Sl.at h1 hi
  exact ⟨b, o, _, _, e, hc, (h2 i hi).1, (h2 i hi).2⟩

/-! The place of a member. -/
def hasFrom (n d : ByteArray) : Nat → List MethN → Int
  | _, [] => -1
  | i, m :: r => if m.name = n ∧ m.desc = d then i else hasFrom n d (i + 1) r
theorem hasFrom_at {n d : ByteArray} {l : List MethN} {j : Nat} (h : j < l.length) : hasFrom n d j (l.drop j) = if (l.getD j default).name = n ∧ (l.getD j default).desc = d then (j : Int) else hasFrom n d (j + 1) (l.drop (j + 1)) := by
  rw [List.drop_eq_getElem_cons h]
  show (if (l[j]).name = n ∧ (l[j]).desc = d then _ else _) = _
  rw [show l.getD j default = l[j] by simp [List.getD, h]]
def hasZ (l : List MethN) (n d : ByteArray) : Int := hasFrom n d 0 l
theorem hasFrom_range {n d : ByteArray} : ∀ (l : List MethN) (i : Nat), hasFrom n d i l = -1 ∨ ∃ j : Nat, j < l.length ∧ hasFrom n d i l = ((i + j : Nat) : Int)
  | [], i => .inl rfl
  | p :: r, i => by
    by_cases h : p.name = n ∧ p.desc = d
    · exact .inr ⟨0, by simp, by rw [hasFrom, if_pos h]; rfl⟩
    · rw [hasFrom, if_neg h]
      rcases hasFrom_range r (i + 1) with h1 | ⟨j, h1, h2⟩
      · exact .inl h1
      · exact .inr ⟨j + 1, by simpa using h1, by rw [h2]; congr 1; omega⟩
theorem hasZ_cases (l : List MethN) (n d : ByteArray) : hasZ l n d = -1 ∨ ∃ j : Nat, j < l.length ∧ hasZ l n d = (j : Int) := by
  rcases hasFrom_range (n := n) (d := d) l 0 with h | ⟨j, h1, h2⟩
  · exact .inl h
  · exact .inr ⟨j, h1, by rw [hasZ, h2, Nat.zero_add]⟩
/-- How many have a flag. -/
def countL (f : Int) (l : List MethN) : Nat := l.countP (fun m => m.flags == f)
theorem countL_take {f : Int} {l : List MethN} {j : Nat} (h : j < l.length) : countL f (l.take (j + 1)) = countL f (l.take j) + if (l.getD j default).flags = f then 1 else 0 := by
  rw [List.take_succ_eq_append_getElem h, countL, List.countP_append, List.countP_singleton]
  rw [show l.getD j default = l[j] by simp [List.getD, h]]
  simp [countL]
theorem countL_le (f : Int) (l : List MethN) : countL f l ≤ l.length := List.countP_le_length

end Go.Proofs.Ytmakfnghkpdpkaa
namespace Go.Proofs.Ytmakfnghkpdpkaa
open Go.RowKit
set_option linter.unusedVariables false
set_option linter.unusedSimpArgs false

def treeZ (ks : List KindV) : List PairV := ks.map (fun k => ⟨k.name, k.super⟩)
theorem treeZ_len (ks : List KindV) : (treeZ ks).length = ks.length := by simp [treeZ]
theorem treeZ_at {ks : List KindV} {j : Nat} (h : j < ks.length) : (treeZ ks).getD j default = ⟨(ks.getD j default).name, (ks.getD j default).super⟩ := by simp [treeZ, List.getD, h]
def findZ (ks : List KindV) (x : ByteArray) : Int := pairOf (treeZ ks) x
theorem findZ_cases (ks : List KindV) (x : ByteArray) : findZ ks x = -1 ∨ ∃ j : Nat, j < ks.length ∧ findZ ks x = (j : Int) := by
  rcases pairOf_cases (treeZ ks) x with h | ⟨j, h1, h2⟩
  · exact .inl h
  · exact .inr ⟨j, by rwa [treeZ_len] at h1, h2⟩
def superZ (ks : List KindV) (n : Int) : Int := if n < 1 then -1 else if (ks.length : Int) ≤ n then -1 else findZ ks (ks.getD n.toNat default).super
theorem superZ_cases (ks : List KindV) (n : Int) : superZ ks n = -1 ∨ ∃ j : Nat, j < ks.length ∧ superZ ks n = (j : Int) := by
  unfold superZ
  split
  · exact .inl rfl
  · split
    · exact .inl rfl
    · exact findZ_cases _ _
end Go.Proofs.Ytmakfnghkpdpkaa
namespace Go.Proofs.Ytmakfnghkpdpkaa
open Go.RowKit
set_option linter.unusedVariables false
set_option linter.unusedSimpArgs false

def SmallK (ks : List KindV) : Prop := ks.length ≤ 64 ∧ ∀ k ∈ ks, k.fields.length ≤ 64 ∧ k.meths.length ≤ 64
def subN (ks : List KindV) (b : Int) : Nat → Int → Bool
  | 0, _ => false
  | f + 1, a => if a < 0 then false else if (ks.length : Int) ≤ a then false else if a = b then true else subN ks b f (superZ ks a)
def subZ (ks : List KindV) (a b : Int) : Bool := if b < 0 then false else if (ks.length : Int) ≤ b then false else subN ks b (ks.length + 1) a
/-! Members that are found. -/
structure MemV where
  cls : Int
  place : Int
  desc : ByteArray
  static : Bool
  slot : Int
def zeroM : MemV := ⟨0, 0, ⟨#[]⟩, false, 0⟩
def valM (m : MemV) : Value := .agg #[.int .i64 m.cls, .int .i64 m.place, .string m.desc, .bool m.static, .int .i64 m.slot]
def memO (o : Option MemV) : MemV := match o with | some m => m | none => zeroM
def errM (o : Option MemV) : Int := match o with | some _ => 0 | none => 91
theorem info5_mem : (Try.prog.info? 28).map (·.size) = some 5 := by kernel_rfl
theorem mem_result2 {fn : Func} {p q : Tmp} (hr : fn.results = #[.cell p 28, .tmp q]) {w : World} {b : Nat} {t : MemV} {x : Value} {tmps : Array Value} (h : w.heap[b]? = some (.cells #[.int .i64 t.cls, .int .i64 t.place, .string t.desc, .bool t.static, .int .i64 t.slot] 28 (0, 0))) (ht : tmps.getD p undef = .pointer (some ⟨b, 0, none⟩)) (hx : tmps.getD q undef = x) :
    (results fn tmps).run Try.prog w = .ok (.tuple #[valM t, x]) w := by
  rw [results_cell_tmp hr, ht, hx, show (asAddr (.pointer (some ⟨b, 0, none⟩))).run Try.prog w = .ok ⟨b, 0, none⟩ w from rfl]
  simp only [Result.andThen]
  rw [run_loadVar_row w b 28 28 _ (0, 0) _ h Try.underlying28 rfl info5_mem]
  rfl
theorem mem_alone {fn : Func} {p : Tmp} (hr : fn.results = #[.cell p 28]) {w : World} {b : Nat} {i : MemV} {tmps : Array Value} (h : w.heap[b]? = some (.cells #[.int .i64 i.cls, .int .i64 i.place, .string i.desc, .bool i.static, .int .i64 i.slot] 28 (0, 0))) (ht : tmps.getD p undef = .pointer (some ⟨b, 0, none⟩)) :
    (results fn tmps).run Try.prog w = .ok (valM i) w :=
  results_cell_row hr tmps w b 28 _ (0, 0) _ ht h Try.underlying28 rfl info5_mem
def MemTo (w : World) (o : Option MemV) (e : Ending) (w' : World) : Prop := e = .returned (.tuple #[valM (memO o), .int .i64 (errM o)]) ∧ Only (fun _ => False) w w'
theorem MemTo.no {w w' : World} {o : Option MemV} (h : o = none) (ho : Only (fun _ => False) w w') : MemTo w o (.returned (.tuple #[valM zeroM, .int .i64 91])) w' := by subst h; exact ⟨rfl, ho⟩
theorem MemTo.yes {w w' : World} {o : Option MemV} {m : MemV} (h : o = some m) (ho : Only (fun _ => False) w w') : MemTo w o (.returned (.tuple #[valM m, .int .i64 0])) w' := by subst h; exact ⟨rfl, ho⟩
/-- A method of that very class. -/
def ownAt (ks : List KindV) (j : Nat) (n d : ByteArray) : Option MemV := if hasZ (ks.getD j default).meths n d < 0 then none else some ⟨j, hasZ (ks.getD j default).meths n d, d, ((ks.getD j default).meths.getD (hasZ (ks.getD j default).meths n d).toNat default).flags == 8, 0⟩
def ownZ (ks : List KindV) (c n d : ByteArray) : Option MemV := if findZ ks c < 0 then none else ownAt ks (findZ ks c).toNat n d
end Go.Proofs.Ytmakfnghkpdpkaa
namespace Go.Proofs.Ytmakfnghkpdpkaa
open Go.RowKit
set_option linter.unusedVariables false
set_option linter.unusedSimpArgs false

/-! A class, its super, and so on. -/
def Ends (ks : List KindV) : Nat → Int → Prop
  | 0, x => x < 0
  | f + 1, x => x < 0 ∨ Ends ks f (superZ ks x)
def chain (ks : List KindV) : Nat → Int → List Nat
  | 0, _ => []
  | f + 1, x => if x < 0 then [] else x.toNat :: chain ks f (superZ ks x)
theorem chain_zero (ks : List KindV) (x : Int) : chain ks 0 x = [] := rfl
theorem chain_succ (ks : List KindV) (f : Nat) (x : Int) : chain ks (f + 1) x = if x < 0 then [] else x.toNat :: chain ks f (superZ ks x) := rfl
theorem Ends.more {ks : List KindV} : ∀ {f : Nat} {x : Int}, Ends ks f x → Ends ks (f + 1) x
  | 0, x, h => .inl h
  | f + 1, x, h => by
    rcases h with h | h
    · exact .inl h
    · exact .inr h.more
theorem chain_more {ks : List KindV} : ∀ {f : Nat} {x : Int}, Ends ks f x → chain ks (f + 1) x = chain ks f x
  | 0, x, h => by
    rw [chain_succ, if_pos (show x < 0 from h)]
    rfl
  | f + 1, x, h => by
    rw [chain_succ ks (f + 1) x, chain_succ ks f x]
    by_cases h0 : x < 0
    · rw [if_pos h0, if_pos h0]
    · rcases h with h | h
      · exact absurd h h0
      · rw [if_neg h0, if_neg h0, chain_more h]
def upZ (ks : List KindV) (x : Int) : List Nat := chain ks (ks.length + 1) x
/-- Every chain of a program ends. -/
def EndsAll (ks : List KindV) : Prop := ∀ x : Int, x < ks.length → Ends ks (ks.length + 1) x
theorem upZ_end {ks : List KindV} {x : Int} (h : x < 0) : upZ ks x = [] := by
  unfold upZ
  rw [chain_succ, if_pos h]
theorem superZ_lt (ks : List KindV) (x : Int) : superZ ks x < ks.length := by
  rcases superZ_cases ks x with h | ⟨j, hj, h⟩
  · rw [h]; omega
  · rw [h]; omega
theorem upZ_step {ks : List KindV} (he : EndsAll ks) {x : Nat} (h : x < ks.length) : upZ ks (x : Int) = x :: upZ ks (superZ ks x) := by
  have h1 := he x (by omega)
  have h2 : Ends ks ks.length (superZ ks x) := by
    rcases h1 with h1 | h1
    · omega
    · exact h1
  unfold upZ
  rw [chain_succ, if_neg (by omega), chain_more h2]
  rfl
def sumN : List Nat → Nat
  | [] => 0
  | a :: r => a + sumN r
/-- How many slots an object has. -/
def slotsN (ks : List KindV) (x : Int) : Nat := sumN ((upZ ks x).map (fun j => countL 0 (ks.getD j default).fields))
/-- How many static slots there are ahead of a class. -/
def staticsN (ks : List KindV) (n : Nat) : Nat := sumN ((ks.take n).map (fun k => countL 8 k.fields))
theorem slotsN_end {ks : List KindV} {x : Int} (h : x < 0) : slotsN ks x = 0 := by unfold slotsN; rw [upZ_end h]; rfl
theorem slotsN_step {ks : List KindV} (he : EndsAll ks) {x : Nat} (h : x < ks.length) : slotsN ks (x : Int) = countL 0 (ks.getD x default).fields + slotsN ks (superZ ks x) := by
  unfold slotsN
  rw [upZ_step he h]
  rfl
theorem sumN_append : ∀ a b : List Nat, sumN (a ++ b) = sumN a + sumN b
  | [], b => by rw [List.nil_append]; show _ = 0 + _; omega
  | x :: a, b => by show x + sumN (a ++ b) = (x + sumN a) + sumN b; rw [sumN_append a b]; omega
theorem staticsN_step {ks : List KindV} {n : Nat} (h : n < ks.length) : staticsN ks (n + 1) = staticsN ks n + countL 8 (ks.getD n default).fields := by
  unfold staticsN
  rw [List.take_succ_eq_append_getElem h, List.map_append, sumN_append]
  rw [show ks.getD n default = ks[n] by simp [List.getD, h]]
  rfl
theorem staticsN_le {ks : List KindV} (hs : SmallK ks) : ∀ {n : Nat}, n ≤ ks.length → staticsN ks n ≤ 64 * n
  | 0, _ => Nat.zero_le _
  | n + 1, h => by
    have h1 := staticsN_le hs (n := n) (by omega)
    have h2 := countL_le 8 (ks.getD n default).fields
    have h3 := (hs.2 _ (getD_mem (show n < ks.length by omega))).1
    rw [staticsN_step (by omega)]
    omega
theorem chain_len {ks : List KindV} : ∀ (f : Nat) (x : Int), (chain ks f x).length ≤ f
  | 0, x => Nat.le_refl _
  | f + 1, x => by
    rw [chain_succ]
    split
    · exact Nat.zero_le _
    · rw [List.length_cons]
      have := chain_len (ks := ks) f (superZ ks x)
      omega
theorem upZ_len {ks : List KindV} (hs : SmallK ks) (x : Int) : (upZ ks x).length ≤ 65 := by
  have h1 := chain_len (ks := ks) (ks.length + 1) x
  have := hs.1
  unfold upZ
  omega
theorem slotsN_le {ks : List KindV} (hs : SmallK ks) (he : EndsAll ks) : ∀ (n : Nat) {x : Int}, x < ks.length → (upZ ks x).length = n → slotsN ks x ≤ 64 * n
  | n, x, hx, hn => by
    by_cases h0 : x < 0
    · rw [slotsN_end h0]; exact Nat.zero_le _
    · obtain ⟨j, rfl⟩ := Int.eq_ofNat_of_zero_le (show 0 ≤ x by omega)
      have hj : j < ks.length := by omega
      rw [upZ_step he hj, List.length_cons] at hn
      cases n with
      | zero => omega
      | succ n =>
        have h1 := slotsN_le hs he n (superZ_lt ks j) (by omega)
        have h2 := countL_le 0 (ks.getD j default).fields
        have h3 := (hs.2 _ (getD_mem hj)).1
        rw [slotsN_step he hj]
        omega
theorem slotsN_small {ks : List KindV} (hs : SmallK ks) (he : EndsAll ks) {x : Int} (hx : x < ks.length) : slotsN ks x ≤ 4160 := by
  have h1 := slotsN_le hs he _ hx rfl
  have h2 := upZ_len hs x
  omega
theorem keepD {w W w1 : World} {pb : Nat} {ks : List KindV} {cs : List ClassV} {a0 a1 : Addr} {v0 v1 vf : Value} {ms : List MethN} (ho : Only (fun _ => False) W w1)
    (h : (W.cell? a0 = some v0 ∧ W.cell? a1 = some v1) ∧ DocP W pb ks cs ∧ MethNs W vf ms ∧ Only (fun _ => False) w W) : (w1.cell? a0 = some v0 ∧ w1.cell? a1 = some v1) ∧ DocP w1 pb ks cs ∧ MethNs w1 vf ms ∧ Only (fun _ => False) w w1 :=
  ⟨⟨ho.cell h.1.1 (fun h => h), ho.cell h.1.2 (fun h => h)⟩, h.2.1.only ho, h.2.2.1.only ho, h.2.2.2.trans ho (fun _ h _ => h)⟩
theorem docD {w W : World} {pb : Nat} {ks : List KindV} {cs : List ClassV} {a0 a1 : Addr} {v0 v1 vf : Value} {ms : List MethN}
    (h : (W.cell? a0 = some v0 ∧ W.cell? a1 = some v1) ∧ DocP W pb ks cs ∧ MethNs W vf ms ∧ Only (fun _ => False) w W) : DocP W pb ks cs := h.2.1
theorem mthD {w W : World} {pb : Nat} {ks : List KindV} {cs : List ClassV} {a0 a1 : Addr} {v0 v1 vf : Value} {ms : List MethN}
    (h : (W.cell? a0 = some v0 ∧ W.cell? a1 = some v1) ∧ DocP W pb ks cs ∧ MethNs W vf ms ∧ Only (fun _ => False) w W) : MethNs W vf ms := h.2.2.1
theorem onlyD {w W : World} {pb : Nat} {ks : List KindV} {cs : List ClassV} {a0 a1 : Addr} {v0 v1 vf : Value} {ms : List MethN}
    (h : (W.cell? a0 = some v0 ∧ W.cell? a1 = some v1) ∧ DocP W pb ks cs ∧ MethNs W vf ms ∧ Only (fun _ => False) w W) : Only (fun _ => False) w W := h.2.2.2

end Go.Proofs.Ytmakfnghkpdpkaa
namespace Go.Proofs.Ytmakfnghkpdpkaa
open Go.RowKit
set_option linter.unusedVariables false
set_option linter.unusedSimpArgs false

def initB : ByteArray := ⟨#[60, 105, 110, 105, 116, 62]⟩
theorem lit_init : (⟨#[60, 105, 110, 105, 116, 62]⟩ : ByteArray).toList = [60, 105, 110, 105, 116, 62] := by rw [ByteArray.toList_eq]
/-- The first of a chain that has such a method. -/
def firstO : List Nat → (Nat → Option MemV) → Option MemV
  | [], _ => none
  | j :: r, f => match f j with | some m => some m | none => firstO r f
def lookZ (ks : List KindV) (c n d : ByteArray) : Option MemV := if n = initB then none else firstO (upZ ks (findZ ks c)) (fun j => ownAt ks j n d)
/-- Each name is there once. -/
def NamesOnce (ks : List KindV) : Prop := ∀ j, j < ks.length → findZ ks (ks.getD j default).name = (j : Int)
theorem ownZ_at {ks : List KindV} (hn : NamesOnce ks) {j : Nat} (h : j < ks.length) (n d : ByteArray) : ownZ ks (ks.getD j default).name n d = ownAt ks j n d := by
  unfold ownZ
  rw [hn j h, if_neg (by omega)]
  rfl
def intZ : Value → Int
  | .int _ x => x
  | _ => 0
end Go.Proofs.Ytmakfnghkpdpkaa
namespace Go.Proofs.Ytmakfnghkpdpkaa
open Go.RowKit
set_option linter.unusedVariables false
set_option linter.unusedSimpArgs false

/-- A field of that very class. -/
def slotAt (ks : List KindV) (j i : Nat) : Nat :=
  if ((ks.getD j default).fields.getD i default).flags = 8 then staticsN ks j + countL 8 ((ks.getD j default).fields.take i) else slotsN ks (superZ ks j) + countL 0 ((ks.getD j default).fields.take i)
def fieldAt (ks : List KindV) (j : Nat) (n d : ByteArray) : Option MemV :=
  if hasZ (ks.getD j default).fields n d < 0 then none
  else some ⟨j, hasZ (ks.getD j default).fields n d, d, ((ks.getD j default).fields.getD (hasZ (ks.getD j default).fields n d).toNat default).flags == 8, (slotAt ks j (hasZ (ks.getD j default).fields n d).toNat : Int)⟩
def docField (ks : List KindV) (c n d : ByteArray) : Option MemV := firstO (upZ ks (findZ ks c)) (fun j => fieldAt ks j n d)
theorem setS {w W : World} {B : Nat} {v : Value} (h : Only (fun _ => False) w W) (hB : w.heap.size ≤ B) (i : Nat) : Only (fun _ => False) w (W.setCell ⟨B, i, none⟩ v) := h.setCell (fun hl => by have h3 : B < w.heap.size := hl; omega) _
theorem only2 {w W : World} {a0 a1 : Addr} {v0 v1 : Value} (h : (W.cell? a0 = some v0 ∧ W.cell? a1 = some v1) ∧ Only (fun _ => False) w W) : Only (fun _ => False) w W := h.2
end Go.Proofs.Ytmakfnghkpdpkaa
