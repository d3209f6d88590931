import Derived.Test.YtinbelghhfodiaaGreatDoorMaKndBRulN
import Derived.Test.YtinbelghhfodiaaGreatDoorMaPolLKndW
import Derived.Test.YtinbelghhfodiaaGreatDoorMaPrsBig
import Derived.Test.YtinbelghhfodiaaGreatDoorMaSepPolT
import Derived.Test.YtinbelghhfodiaaGreatDoorMaPolMPolV
import Derived.Deep.RegionHeld3
namespace Go.Proofs.YtinbelghhfodiaaGreatDoor
set_option maxHeartbeats 4000000
open Lib (hid)
open Go.RowKit
set_option linter.unusedVariables false
set_option linter.unusedSimpArgs false
structure TypeAt (w : World) (b o i : Nat) (k : TypeV) : Prop where
 c0 : w.cell? ⟨b, o + i * 5, none⟩ = some (.int .i64 k.k)
 c1 : w.cell? ⟨b, o + i * 5 + 1, none⟩ = some (.string k.name)
 c2 : w.cell? ⟨b, o + i * 5 + 2, none⟩ = some (.int .i64 k.dims)
 c3 : w.cell? ⟨b, o + i * 5 + 3, none⟩ = some (.int .i64 k.elem)
 c4 : w.cell? ⟨b, o + i * 5 + 4, none⟩ = some (.int .i64 k.at_)
def Types (w : World) (v : Value) (l : List TypeV) : Prop := Sl v l.length (fun b o i => TypeAt w b o i (l.getD i default))
theorem TypeAt.only {S : Nat → Prop} {w w' : World} {b o i : Nat} {k : TypeV} (h : TypeAt w b o i k) (ho : Only S w w') (hs : ¬ S b) : TypeAt w' b o i k :=
 ⟨ho.cell h.c0 hs, ho.cell h.c1 hs, ho.cell h.c2 hs, ho.cell h.c3 hs, ho.cell h.c4 hs⟩
theorem Types.only {w w' : World} {v : Value} {l : List TypeV} (h : Types w v l) (ho : Only (fun _ => False) w w') : Types w' v l := h.imp (fun _ _ _ _ _ h => h.only ho (fun h => h))
theorem Types.nil (w : World) : Types w (.slice none 0 0) [] := Sl.nil _
def TRow (w : World) (B : Nat) (v : Value) (l : List TypeV) : Prop := w.ownsRow B 33 5 v l.length (l.flatMap cellsTy)
theorem cellsT_at : ∀ {cs : List TypeV} {i d : Nat}, i < cs.length → d < 5 → (cs.flatMap cellsTy)[i * 5 + d]? = (cellsTy (cs.getD i default))[d]?
 | c :: r, 0, d, _, hd => by
  rw [List.flatMap_cons, List.getElem?_append_left (by simp [cellsTy]; omega)]
  simp
 | c :: r, i + 1, d, hi, hd => by
  rw [List.flatMap_cons, List.getElem?_append_right (by simp [cellsTy]; omega)]
  have : (i + 1) * 5 + d - (cellsTy c).length = i * 5 + d := by simp [cellsTy]; omega
  rw [this, cellsT_at (by simpa using hi) hd]
  simp
theorem TRow.types {w : World} {B : Nat} {v : Value} {cs : List TypeV} (h : TRow w B v cs) : Types w v cs := by
 rcases h.2 with ⟨rfl, hn⟩ | ⟨g, cap, cur, rfl, hb, hg, hnc, hcm, hcs, htake⟩
 ·have : cs = [] := List.eq_nil_of_length_eq_zero hn
  subst this
  exact Sl.nil _
 ·refine ⟨_, cap, rfl, hnc, by unfold maxLen at hcm; omega, (fun e => by cases e), fun x hx _ => ?_⟩
  cases hx
  refine ⟨g, 0, rfl, fun i hi => ?_⟩
  have hc : ∀ d, d < 5 → w.cell? ⟨g, 0 + i * 5 + d, none⟩ = (cellsTy (cs.getD i default))[d]? := fun d hd => by
   rw [Nat.zero_add, ← cellsT_at hi hd]
   exact (show w.ownsRow B _ 5 _ _ _ from h).cellAt (g := g) (cap := cap) (i * 5 + d) (by omega)
  exact ⟨hc 0 (by decide), hc 1 (by decide), hc 2 (by decide), hc 3 (by decide), hc 4 (by decide)⟩
theorem TRow.only {S : Nat → Prop} {w w' : World} {B : Nat} {v : Value} {cs : List TypeV} (h : TRow w B v cs) (ho : Only S w w') (hs : ∀ k, v.ownBlock = some k → ¬ S k) : TRow w' B v cs := ho.owns h hs
theorem TRow.ge {w : World} {B : Nat} {v : Value} {cs : List TypeV} (h : TRow w B v cs) : ∀ k, v.ownBlock = some k → B ≤ k ∧ k < w.heap.size := fun k hk => World.ownsRow.lt h k hk
theorem TRow.nil (w : World) (B : Nat) : TRow w B (.slice none 0 0) [] := World.ownsRow_nil _ _ _ _
theorem Src.type {w : World} {m : Nat} (c : TypeV) (h : w.heap.size = m) : Src (w.alloc (.cells #[.int .i64 c.k, .string c.name, .int .i64 c.dims, .int .i64 c.elem, .int .i64 c.at_] 33)) 5 (.slice (some ⟨m, 0, none⟩) 1 1) 1 (cellsTy c) := by
 subst h
 refine ⟨rfl, ?_, _, 1, rfl, (fun e => by cases e), fun ad hd j u hj => ?_⟩
 ·intro x hx
  simp only [cellsTy, List.mem_cons, List.mem_nil_iff, or_false] at hx
  rcases hx with rfl | rfl | rfl | rfl | rfl <;> rfl
 ·cases hd
  rw [add_lit, Nat.zero_add, cell_blk (heap_alloc_new w _)]
  simpa [cellsTy] using hj
theorem TRow.more {w3 : World} {B : Nat} {v' : Value} {cs : List TypeV} {c : TypeV} (hown : w3.ownsRow B 33 5 v' (cs.length + 1) (cs.flatMap cellsTy ++ cellsTy c)) : TRow w3 B v' (cs ++ [c]) := by
 unfold TRow
 rw [List.length_append, List.flatMap_append]
 simpa using hown
theorem info_type : (Tryz.prog.info? 33).map (fun i => (i.zero, i.size, i.bytes)) = some (some (.agg #[.int .i64 0, .string ⟨#[]⟩, .int .i64 0, .int .i64 0, .int .i64 0]), 5, 48) := by kernel_rfl
theorem only_grownT {w2 w3 : World} {v : Value} (hg : w2.grownBy w3 v.ownBlock) : Only (fun k => v.ownBlock = some k) w2 w3 := (Only.refl _ _).grown hg (fun k hk _ => hk)
def parN (zs : List Int) : Nat → Option (List TypeV × List Int)
 | 0 => some ([], zs)
 | n + 1 =>
  match parN zs n with
  | none => none
  | some (l, r) =>
   match r with
   | [] => none
   | c :: q =>
    if c = 41 then none else
    match fieldZ (c :: q) with
    | none => none
    | some (t, r') => if l.length < 16 then some (l ++ [t], r') else none
def Par (zs : List Int) (l : List TypeV) (r : List Int) : Prop := parN zs l.length = some (l, r)
theorem Par.nil (zs : List Int) : Par zs [] zs := rfl
theorem parN_pred {zs : List Int} {n : Nat} {l : List TypeV} {r : List Int} (h : parN zs (n + 1) = some (l, r)) :
  ∃ l' c q t, parN zs n = some (l', c :: q) ∧ c ≠ 41 ∧ fieldZ (c :: q) = some (t, r) ∧ l'.length < 16 ∧ l = l' ++ [t] := by
 unfold parN at h
 cases hs : parN zs n with
 | none => rw [hs] at h; cases h
 | some p =>
  obtain ⟨l', r0⟩ := p
  rw [hs] at h
  simp only at h
  cases r0 with
  | nil => cases h
  | cons c q =>
   simp only at h
   split at h
   ·cases h
   rename_i hc
   cases hf : fieldZ (c :: q) with
   | none => rw [hf] at h; cases h
   | some p2 =>
    obtain ⟨t, r'⟩ := p2
    rw [hf] at h
    simp only at h
    split at h
    ·simp only [Option.some.injEq, Prod.mk.injEq] at h
     obtain ⟨rfl, rfl⟩ := h
     exact ⟨l', c, q, t, rfl, hc, hf, by assumption, rfl⟩
    ·cases h
theorem parN_len {zs : List Int} : ∀ {n : Nat} {l : List TypeV} {r : List Int}, parN zs n = some (l, r) → l.length = n
 | 0, l, r, h => by simp only [parN, Option.some.injEq, Prod.mk.injEq] at h; rw [← h.1]; rfl
 | n + 1, l, r, h => by
  obtain ⟨l', c, q, t, hs, _, _, _, rfl⟩ := parN_pred h
  rw [List.length_append, parN_len hs]; rfl
theorem parN_rest {zs : List Int} : ∀ {n : Nat} {l : List TypeV} {r : List Int}, parN zs n = some (l, r) → n ≤ 16 ∧ ∃ m, r = zs.drop m
 | 0, l, r, h => by
  simp only [parN, Option.some.injEq, Prod.mk.injEq] at h
  exact ⟨by omega, 0, h.2.symm⟩
 | n + 1, l, r, h => by
  obtain ⟨l', c, q, t, hs, _, hf, hl, rfl⟩ := parN_pred h
  obtain ⟨_, m, hm⟩ := parN_rest hs
  obtain ⟨k, hk, _⟩ := field_rest hf
  have := parN_len hs
  exact ⟨by omega, m + k, by rw [hk, hm, List.drop_drop]⟩
theorem Par.snoc {zs : List Int} {l : List TypeV} {c : Int} {q r : List Int} {t : TypeV} (h : Par zs l (c :: q)) (hc : c ≠ 41) (hf : fieldZ (c :: q) = some (t, r)) (hl : l.length < 16) : Par zs (l ++ [t]) r := by
 unfold Par at h ⊢
 rw [List.length_append, List.length_singleton]
 unfold parN
 rw [h]
 simp only
 rw [if_neg hc, hf]
 simp only
 rw [if_pos hl]
def Stop (l : List TypeV) (r : List Int) : Prop := ∀ c q, r = c :: q → c ≠ 41 → ∀ t r', fieldZ (c :: q) = some (t, r') → ¬ l.length < 16
theorem parN_mono {zs : List Int} : ∀ {m n : Nat}, n ≤ m → ∀ {q}, parN zs m = some q → ∃ q', parN zs n = some q'
 | 0, n, h, q, hq => by
  obtain rfl : n = 0 := by omega
  exact ⟨_, hq⟩
 | m + 1, n, h, q, hq => by
  by_cases e : n = m + 1
  ·subst e; exact ⟨_, hq⟩
  ·obtain ⟨l, p⟩ := q
   obtain ⟨l', c, q, t, hs, _⟩ := parN_pred hq
   exact parN_mono (by omega) hs
theorem par_unique {zs : List Int} {l l' : List TypeV} {r r' : List Int} (h : Par zs l r) (h' : Par zs l' r') (hs : Stop l r) (hs' : Stop l' r') : l = l' ∧ r = r' := by
 have key : ∀ {l l' : List TypeV} {r r' : List Int}, Par zs l r → Par zs l' r' → Stop l r → ¬ l.length < l'.length := by
  intro l l' r r' h h' hs hlt
  obtain ⟨q, hq⟩ := parN_mono (n := l.length + 1) (by omega) h'
  obtain ⟨l2, p2⟩ := q
  obtain ⟨l3, c, q, t, h3, h4, h5, h6, _⟩ := parN_pred hq
  unfold Par at h
  rw [h] at h3
  injection h3 with h3
  injection h3 with e1 e2
  subst e1
  exact hs c q e2 h4 t p2 h5 h6
 have e : l.length = l'.length := by
  have := key h h' hs
  have := key h' h hs'
  omega
 unfold Par at h h'
 rw [e, h'] at h
 injection h with h
 injection h with e1 e2
 exact ⟨e1.symm, e2.symm⟩
def voidT : TypeV := ⟨8, ⟨#[]⟩, 0, 0, 0⟩
def endM (l : List TypeV) (r : List Int) : List TypeV × TypeV × Int :=
 match r with
 | [] => ([], zeroT, 80)
 | c :: q => if c = 41 then (if q = [86] then (l, voidT, 0) else match oneZ8 q with | some t => (l, t, 0) | none => ([], zeroT, 80)) else ([], zeroT, 80)
def Meth (zs : List Int) (x : List TypeV × TypeV × Int) : Prop :=
 (¬ (∃ q, zs = 40 :: q) ∧ x = ([], zeroT, 80)) ∨ ∃ q l r, zs = 40 :: q ∧ Par q l r ∧ Stop l r ∧ x = endM l r
theorem Meth.unique {zs : List Int} {x x' : List TypeV × TypeV × Int} (h : Meth zs x) (h' : Meth zs x') : x = x' := by
 rcases h with ⟨h1, rfl⟩ | ⟨q, l, r, rfl, hp, hs, rfl⟩ <;> rcases h' with ⟨h1', rfl⟩ | ⟨q', l', r', hq, hp', hs', rfl⟩
 ·rfl
 ·exact absurd ⟨_, hq⟩ h1
 ·exact absurd ⟨_, rfl⟩ h1'
 ·injection hq with _ hq
  subst hq
  obtain ⟨rfl, rfl⟩ := par_unique hp hp' hs hs'
  rfl
def RowG {α : Type} (T : TypeId) (n : Nat) (cells : α → List Value) (w : World) (B : Nat) (v : Value) (l : List α) : Prop := w.ownsRow B T n v l.length (l.flatMap cells)
section
variable {α : Type} {T : TypeId} {n : Nat} {cells : α → List Value}
theorem cellsG_at [Inhabited α] (hn : ∀ a, (cells a).length = n) : ∀ {l : List α} {i d : Nat}, i < l.length → d < n → (l.flatMap cells)[i * n + d]? = (cells (l.getD i default))[d]?
 | c :: r, 0, d, _, hd => by
  rw [List.flatMap_cons, List.getElem?_append_left (by rw [hn]; omega)]
  simp
 | c :: r, i + 1, d, hi, hd => by
  have he : (i + 1) * n + d = n + (i * n + d) := by rw [Nat.succ_mul]; omega
  rw [List.flatMap_cons, List.getElem?_append_right (by rw [hn]; omega), hn, he, Nat.add_sub_cancel_left, cellsG_at hn (by simpa using hi) hd]
  simp
theorem RowG.only {S : Nat → Prop} {w w' : World} {B : Nat} {v : Value} {l : List α} (h : RowG T n cells w B v l) (ho : Only S w w') (hs : ∀ k, v.ownBlock = some k → ¬ S k) : RowG T n cells w' B v l := ho.owns h hs
theorem RowG.ge {w : World} {B : Nat} {v : Value} {l : List α} (h : RowG T n cells w B v l) : ∀ k, v.ownBlock = some k → B ≤ k ∧ k < w.heap.size := fun k hk => World.ownsRow.lt h k hk
theorem RowG.nil (w : World) (B : Nat) : RowG T n cells w B (.slice none 0 0) [] := World.ownsRow_nil _ _ _ _
theorem RowG.more {w : World} {B : Nat} {v' : Value} {l : List α} {a : α} (hown : w.ownsRow B T n v' (l.length + 1) (l.flatMap cells ++ cells a)) : RowG T n cells w B v' (l ++ [a]) := by
 unfold RowG
 rw [List.length_append, List.flatMap_append]
 simpa using hown
theorem Src.struct {w : World} {m : Nat} (xs : List Value) (hn : xs.length = n) (hu : ∀ u ∈ xs, u.oneCell' = true) (h : w.heap.size = m) : Src (w.alloc (.cells xs.toArray T)) n (.slice (some ⟨m, 0, none⟩) 1 1) 1 xs := by
 subst h
 refine ⟨by omega, hu, _, 1, rfl, (fun e => by cases e), fun ad hd j u hj => ?_⟩
 cases hd
 rw [add_lit, Nat.zero_add, cell_blk (heap_alloc_new w _)]
 simpa using hj
end
theorem RowG.base {α : Type} {T : TypeId} {n : Nat} {cells : α → List Value} {w : World} {B B' : Nat} {v : Value} {l : List α} (h : RowG T n cells w B v l) (hb : B' ≤ B) : RowG T n cells w B' v l := owns_base h (fun k hk => Nat.le_trans hb (RowG.ge h k hk).1)
theorem Row.keep {w w' : World} {N : Nat} {v : Value} {ys : List Int} {S : Nat → Prop} (h : Row w N v ys) (ho : Only S w w') (hS : ∀ j, S j → j < N) : Row w' N v ys := h.only ho (fun k hk hs => by have := (h.ge k hk).1; have := hS k hs; omega)
theorem RowG.keep {w w' : World} {α : Type} {T : TypeId} {m N : Nat} {cells : α → List Value} {v : Value} {l : List α} {S : Nat → Prop} (h : RowG T m cells w N v l) (ho : Only S w w') (hS : ∀ j, S j → j < N) : RowG T m cells w' N v l := RowG.only h ho (fun k hk hs => by have := (RowG.ge h k hk).1; have := hS k hs; omega)
abbrev MapX := MapV × Value × Value
def cellsMp (x : MapX) : List Value := [.int .i64 x.1.at_, x.2.1, x.2.2, .bool x.1.fresh]
structure MapAt (w : World) (b o i : Nat) (x : MapX) : Prop where
 c0 : w.cell? ⟨b, o + i * 4, none⟩ = some (.int .i64 x.1.at_)
 c1 : w.cell? ⟨b, o + i * 4 + 1, none⟩ = some x.2.1
 c2 : w.cell? ⟨b, o + i * 4 + 2, none⟩ = some x.2.2
 c3 : w.cell? ⟨b, o + i * 4 + 3, none⟩ = some (.bool x.1.fresh)
theorem MapAt.only {S : Nat → Prop} {w w' : World} {b o i : Nat} {x : MapX} (h : MapAt w b o i x) (ho : Only S w w') (hs : ¬ S b) : MapAt w' b o i x :=
 ⟨ho.cell h.c0 hs, ho.cell h.c1 hs, ho.cell h.c2 hs, ho.cell h.c3 hs⟩
instance : Inhabited MapX := ⟨(default, .slice none 0 0, .slice none 0 0)⟩
def MapsX (w : World) (v : Value) (xs : List MapX) : Prop := Sl v xs.length (fun b o i => MapAt w b o i (xs.getD i default)) ∧ ∀ x ∈ xs, Types w x.2.1 x.1.locals ∧ Types w x.2.2 x.1.stack
def Maps (w : World) (v : Value) (l : List MapV) : Prop := ∃ xs : List MapX, xs.map (·.1) = l ∧ MapsX w v xs
theorem MapsX.only {w w' : World} {v : Value} {xs : List MapX} (h : MapsX w v xs) (ho : Only (fun _ => False) w w') : MapsX w' v xs :=
 ⟨h.1.imp (fun _ _ _ _ _ h => h.only ho (fun h => h)), fun x hx => ⟨(h.2 x hx).1.only ho, (h.2 x hx).2.only ho⟩⟩
theorem Maps.only {w w' : World} {v : Value} {l : List MapV} (h : Maps w v l) (ho : Only (fun _ => False) w w') : Maps w' v l := by
 obtain ⟨xs, h1, h2⟩ := h
 exact ⟨xs, h1, h2.only ho⟩
theorem MapsX.nil (w : World) : MapsX w (.slice none 0 0) [] := ⟨Sl.nil _, fun x hx => by cases hx⟩
theorem Maps.nil (w : World) : Maps w (.slice none 0 0) [] := ⟨[], rfl, MapsX.nil w⟩
theorem TRow.keep {w w' : World} {B : Nat} {v : Value} {l : List TypeV} {S : Nat → Prop} (h : TRow w B v l) (ho : Only S w w') (hS : ∀ j, S j → j < B) : TRow w' B v l := h.only ho (fun k hk hs => by have := (h.ge k hk).1; have := hS k hs; omega)
theorem TRow.base {w : World} {B B' : Nat} {v : Value} {l : List TypeV} (h : TRow w B v l) (hb : B' ≤ B) : TRow w B' v l := owns_base h (fun k hk => Nat.le_trans hb (h.ge k hk).1)
def TypeTo (w : World) (s : ByteArray) (e : Ending) (w' : World) : Prop := e = .returned (.tuple #[valT (typO (typeN s)), .bool (typeN s).isSome]) ∧ Only (fun _ => False) w w'
def treeZ (ks : List KindV) : List PairV := ks.map (fun k => ⟨k.name, k.super⟩)
theorem treeZ_len (ks : List KindV) : (treeZ ks).length = ks.length := by simp [treeZ]
theorem treeZ_at {ks : List KindV} {j : Nat} (h : j < ks.length) : (treeZ ks).getD j default = ⟨(ks.getD j default).name, (ks.getD j default).super⟩ := by simp [treeZ, List.getD, h]
def findZ (ks : List KindV) (x : ByteArray) : Int := pairOf (treeZ ks) x
theorem findZ_cases (ks : List KindV) (x : ByteArray) : findZ ks x = -1 ∨ ∃ j : Nat, j < ks.length ∧ findZ ks x = (j : Int) := by
 rcases pairOf_cases (treeZ ks) x with h | ⟨j, h1, h2⟩
 ·exact .inl h
 ·exact .inr ⟨j, by rwa [treeZ_len] at h1, h2⟩
def superZ (ks : List KindV) (n : Int) : Int := if n < 1 then -1 else if (ks.length : Int) ≤ n then -1 else findZ ks (ks.getD n.toNat default).super
theorem superZ_cases (ks : List KindV) (n : Int) : superZ ks n = -1 ∨ ∃ j : Nat, j < ks.length ∧ superZ ks n = (j : Int) := by
 unfold superZ
 split
 ·exact .inl rfl
 ·split
  ·exact .inl rfl
  ·exact findZ_cases _ _
set_option maxRecDepth 100000 in
theorem refFind (pb : Nat) (ks : List KindV) (cs : List ClassV) (x : ByteArray) (w : World) (hd : DocP w pb ks cs) (hn : ks.length ≤ 4611686018427387904) :
  Calls Tryz.prog 26 #[.pointer (some ⟨pb, 0, none⟩), .string x] w fun e w' => e = .returned (.int .i64 (findZ ks x)) ∧ w = w' := by
 obtain ⟨vl, vi, q0, q1, hk, hc⟩ := hd
 obtain ⟨ao, cap, rfl, p1, p2⟩ := hk.len
 have HK := hid hk
 clear hk hc q1
 go_enter Tryz.func26, Tryz.ntmps26
 go_wp2
 go_loop [5] (fun iv => ∃ j : Nat, iv = .int .i64 j ∧ j ≤ ks.length ∧ Hid (findZ ks x = pairFrom x j ((treeZ ks).drop j))) (fun iv => ks.length - (intOf iv).toNat)
 case atStart => exact ⟨0, rfl, Nat.zero_le _, hid rfl⟩
 case round =>
  obtain ⟨j, rfl, hj, HH⟩ := hrel
  by_cases hlt : j < ks.length
  ·have hjz : (j : Int) < (ks.length : Int) := by omega
   have hj0 : (0 : Int) ≤ (j : Int) := by omega
   obtain ⟨b, o, vf, vm, rfl, y, -, -⟩ := HK.out.at hlt
   obtain ⟨y0, y1, y2, y3, y4⟩ := y
   have HP := hid (pairFrom_at (x := x) (l := treeZ ks) (by rw [treeZ_len]; exact hlt))
   have HA := hid (treeZ_at hlt)
   rw [HA.out] at HP
   generalize ks.getD j default = p at *
   by_cases h1 : p.name = x
   ·have HR := hid (show findZ ks x = (j : Int) by rw [HH.out, HP.out, if_pos h1])
    rw [h1] at y0
    clear h1
    go_wp2
    go_ret
    rw [HR.out]
    exact ⟨rfl, rfl⟩
   ·have HR := hid (show findZ ks x = pairFrom x (j + 1) ((treeZ ks).drop (j + 1)) by rw [HH.out, HP.out, if_neg h1])
    obtain ⟨n1, n2⟩ := toList_beq h1
    clear h1
    go_wp2
    go_round
    case rel => exact ⟨j + 1, by go_num, by omega, HR⟩
    case measure => simp [intOf]; omega
  ·have HR := hid (show findZ ks x = -1 by rw [HH.out, List.drop_of_length_le (by rw [treeZ_len]; omega)]; rfl)
   obtain rfl : j = ks.length := by omega
   clear hlt hj
   go_wp2
   go_ret
   rw [HR.out]
   exact ⟨rfl, rfl⟩
set_option maxRecDepth 100000 in
theorem refSuperN (pb : Nat) (ks : List KindV) (cs : List ClassV) (n : Int) (w : World) (hd : DocP w pb ks cs) (hn : ks.length ≤ 4611686018427387904) :
  Calls Tryz.prog 79 #[.pointer (some ⟨pb, 0, none⟩), .int .i64 n] w fun e w' => e = .returned (.int .i64 (superZ ks n)) ∧ w = w' := by
 have HD := hid hd
 obtain ⟨vl, vi, q0, q1, hk, hc⟩ := hd
 obtain ⟨ao, cap, rfl, p1, p2⟩ := hk.len
 have HK := hid hk
 clear hk hc q1
 by_cases h1 : n < 1
 ·have HR := hid (show superZ ks n = -1 from if_pos h1)
  go_enter Tryz.func79, Tryz.ntmps79
  go_wp2
  go_ret
  rw [HR.out]
  exact ⟨rfl, rfl⟩
 by_cases h2 : (ks.length : Int) ≤ n
 ·have HR := hid (show superZ ks n = -1 by unfold superZ; rw [if_neg h1, if_pos h2])
  go_enter Tryz.func79, Tryz.ntmps79
  go_wp2
  go_ret
  rw [HR.out]
  exact ⟨rfl, rfl⟩
 ·obtain ⟨j, rfl⟩ := Int.eq_ofNat_of_zero_le (show 0 ≤ n by omega)
  have hj : j < ks.length := by omega
  have HR := hid (show superZ ks (j : Int) = findZ ks (ks.getD j default).super by unfold superZ; rw [if_neg h1, if_neg h2]; rfl)
  obtain ⟨b, o, vf, vm, rfl, y, -, -⟩ := HK.out.at hj
  obtain ⟨y0, y1, y2, y3, y4⟩ := y
  have hjz : (j : Int) < (ks.length : Int) := by omega
  have hj0 : (0 : Int) ≤ (j : Int) := by omega
  have cf := refFind pb ks cs (ks.getD j default).super w HD.out hn
  rw [← HR.out] at cf
  have CF := hid cf
  clear cf
  generalize ks.getD j default = p at *
  go_enter Tryz.func79, Tryz.ntmps79
  go_wp2_with (fail)
  refine CF.out.mono ?_
  rintro e w2 ⟨rfl, rfl⟩
  go_wp2
  go_ret
  exact ⟨rfl, rfl⟩
def namesT (t : TypeV) : Bool := t.k == 4 || (t.k == 5 && t.elem == 4)
def typeAtZ (ks : List KindV) (cs : List ConstV) (n : Int) : Option TypeV :=
 match typeN (classZ cs n).1 with
 | none => none
 | some t => if namesT t = true ∧ findZ ks t.name < 0 then none else some t
def SmallK (ks : List KindV) : Prop := ks.length ≤ 64 ∧ ∀ k ∈ ks, k.fields.length ≤ 64 ∧ k.meths.length ≤ 64
def subN (ks : List KindV) (b : Int) : Nat → Int → Bool
 | 0, _ => false
 | f + 1, a => if a < 0 then false else if (ks.length : Int) ≤ a then false else if a = b then true else subN ks b f (superZ ks a)
def subZ (ks : List KindV) (a b : Int) : Bool := if b < 0 then false else if (ks.length : Int) ≤ b then false else subN ks b (ks.length + 1) a
structure MemV where
 cls : Int
 place : Int
 desc : ByteArray
 static : Bool
 slot : Int
def zeroM : MemV := ⟨0, 0, ⟨#[]⟩, false, 0⟩
def valM (m : MemV) : Value := .agg #[.int .i64 m.cls, .int .i64 m.place, .string m.desc, .bool m.static, .int .i64 m.slot]
def memO (o : Option MemV) : MemV := match o with | some m => m | none => zeroM
def errM (o : Option MemV) : Int := match o with | some _ => 0 | none => 91
theorem info5_mem : (Tryz.prog.info? 138).map (·.size) = some 5 := by kernel_rfl
theorem mem_result2 {fn : Func} {p q : Tmp} (hr : fn.results = #[.cell p 138, .tmp q]) {w : World} {b : Nat} {t : MemV} {x : Value} {tmps : Array Value} (h : w.heap[b]? = some (.cells #[.int .i64 t.cls, .int .i64 t.place, .string t.desc, .bool t.static, .int .i64 t.slot] 138 (0, 0))) (ht : tmps.getD p undef = .pointer (some ⟨b, 0, none⟩)) (hx : tmps.getD q undef = x) :
  (results fn tmps).run Tryz.prog w = .ok (.tuple #[valM t, x]) w := by
 rw [results_cell_tmp hr, ht, hx, show (asAddr (.pointer (some ⟨b, 0, none⟩))).run Tryz.prog w = .ok ⟨b, 0, none⟩ w from rfl]
 simp only [Result.andThen]
 rw [run_loadVar_row w b 138 138 _ (0, 0) _ h Tryz.underlying138 rfl info5_mem]
 rfl
theorem mem_alone {fn : Func} {p : Tmp} (hr : fn.results = #[.cell p 138]) {w : World} {b : Nat} {i : MemV} {tmps : Array Value} (h : w.heap[b]? = some (.cells #[.int .i64 i.cls, .int .i64 i.place, .string i.desc, .bool i.static, .int .i64 i.slot] 138 (0, 0))) (ht : tmps.getD p undef = .pointer (some ⟨b, 0, none⟩)) :
  (results fn tmps).run Tryz.prog w = .ok (valM i) w :=
 results_cell_row hr tmps w b 138 _ (0, 0) _ ht h Tryz.underlying138 rfl info5_mem
def MemTo (w : World) (o : Option MemV) (e : Ending) (w' : World) : Prop := e = .returned (.tuple #[valM (memO o), .int .i64 (errM o)]) ∧ Only (fun _ => False) w w'
theorem MemTo.no {w w' : World} {o : Option MemV} (h : o = none) (ho : Only (fun _ => False) w w') : MemTo w o (.returned (.tuple #[valM zeroM, .int .i64 91])) w' := by subst h; exact ⟨rfl, ho⟩
theorem MemTo.yes {w w' : World} {o : Option MemV} {m : MemV} (h : o = some m) (ho : Only (fun _ => False) w w') : MemTo w o (.returned (.tuple #[valM m, .int .i64 0])) w' := by subst h; exact ⟨rfl, ho⟩
def ownAt (ks : List KindV) (j : Nat) (n d : ByteArray) : Option MemV := if hasZ (ks.getD j default).meths n d < 0 then none else some ⟨j, hasZ (ks.getD j default).meths n d, d, ((ks.getD j default).meths.getD (hasZ (ks.getD j default).meths n d).toNat default).flags == 8, 0⟩
def ownZ (ks : List KindV) (c n d : ByteArray) : Option MemV := if findZ ks c < 0 then none else ownAt ks (findZ ks c).toNat n d
def Ends (ks : List KindV) : Nat → Int → Prop
 | 0, x => x < 0
 | f + 1, x => x < 0 ∨ Ends ks f (superZ ks x)
def chain (ks : List KindV) : Nat → Int → List Nat
 | 0, _ => []
 | f + 1, x => if x < 0 then [] else x.toNat :: chain ks f (superZ ks x)
theorem chain_succ (ks : List KindV) (f : Nat) (x : Int) : chain ks (f + 1) x = if x < 0 then [] else x.toNat :: chain ks f (superZ ks x) := rfl
theorem Ends.more {ks : List KindV} : ∀ {f : Nat} {x : Int}, Ends ks f x → Ends ks (f + 1) x
 | 0, x, h => .inl h
 | f + 1, x, h => by
  rcases h with h | h
  ·exact .inl h
  ·exact .inr h.more
theorem chain_more {ks : List KindV} : ∀ {f : Nat} {x : Int}, Ends ks f x → chain ks (f + 1) x = chain ks f x
 | 0, x, h => by
  rw [chain_succ, if_pos (show x < 0 from h)]
  rfl
 | f + 1, x, h => by
  rw [chain_succ ks (f + 1) x, chain_succ ks f x]
  by_cases h0 : x < 0
  ·rw [if_pos h0, if_pos h0]
  ·rcases h with h | h
   ·exact absurd h h0
   ·rw [if_neg h0, if_neg h0, chain_more h]
def upZ (ks : List KindV) (x : Int) : List Nat := chain ks (ks.length + 1) x
def EndsAll (ks : List KindV) : Prop := ∀ x : Int, x < ks.length → Ends ks (ks.length + 1) x
theorem upZ_end {ks : List KindV} {x : Int} (h : x < 0) : upZ ks x = [] := by
 unfold upZ
 rw [chain_succ, if_pos h]
theorem superZ_lt (ks : List KindV) (x : Int) : superZ ks x < ks.length := by
 rcases superZ_cases ks x with h | ⟨j, hj, h⟩
 ·rw [h]; omega
 ·rw [h]; omega
theorem upZ_step {ks : List KindV} (he : EndsAll ks) {x : Nat} (h : x < ks.length) : upZ ks (x : Int) = x :: upZ ks (superZ ks x) := by
 have h1 := he x (by omega)
 have h2 : Ends ks ks.length (superZ ks x) := by
  rcases h1 with h1 | h1
  ·omega
  ·exact h1
 unfold upZ
 rw [chain_succ, if_neg (by omega), chain_more h2]
 rfl
def sumN : List Nat → Nat
 | [] => 0
 | a :: r => a + sumN r
def slotsN (ks : List KindV) (x : Int) : Nat := sumN ((upZ ks x).map (fun j => countL 0 (ks.getD j default).fields))
def staticsN (ks : List KindV) (n : Nat) : Nat := sumN ((ks.take n).map (fun k => countL 8 k.fields))
theorem slotsN_end {ks : List KindV} {x : Int} (h : x < 0) : slotsN ks x = 0 := by unfold slotsN; rw [upZ_end h]; rfl
theorem slotsN_step {ks : List KindV} (he : EndsAll ks) {x : Nat} (h : x < ks.length) : slotsN ks (x : Int) = countL 0 (ks.getD x default).fields + slotsN ks (superZ ks x) := by
 unfold slotsN
 rw [upZ_step he h]
 rfl
theorem sumN_append : ∀ a b : List Nat, sumN (a ++ b) = sumN a + sumN b
 | [], b => by rw [List.nil_append]; show _ = 0 + _; omega
 | x :: a, b => by show x + sumN (a ++ b) = (x + sumN a) + sumN b; rw [sumN_append a b]; omega
theorem staticsN_step {ks : List KindV} {n : Nat} (h : n < ks.length) : staticsN ks (n + 1) = staticsN ks n + countL 8 (ks.getD n default).fields := by
 unfold staticsN
 rw [List.take_succ_eq_append_getElem h, List.map_append, sumN_append]
 rw [show ks.getD n default = ks[n] by simp [List.getD, h]]
 rfl
theorem staticsN_le {ks : List KindV} (hs : SmallK ks) : ∀ {n : Nat}, n ≤ ks.length → staticsN ks n ≤ 64 * n
 | 0, _ => Nat.zero_le _
 | n + 1, h => by
  have h1 := staticsN_le hs (n := n) (by omega)
  have h2 := countL_le 8 (ks.getD n default).fields
  have h3 := (hs.2 _ (getD_mem (show n < ks.length by omega))).1
  rw [staticsN_step (by omega)]
  omega
theorem chain_len {ks : List KindV} : ∀ (f : Nat) (x : Int), (chain ks f x).length ≤ f
 | 0, x => Nat.le_refl _
 | f + 1, x => by
  rw [chain_succ]
  split
  ·exact Nat.zero_le _
  ·rw [List.length_cons]
   have := chain_len (ks := ks) f (superZ ks x)
   omega
theorem upZ_len {ks : List KindV} (hs : SmallK ks) (x : Int) : (upZ ks x).length ≤ 65 := by
 have h1 := chain_len (ks := ks) (ks.length + 1) x
 have := hs.1
 unfold upZ
 omega
theorem slotsN_le {ks : List KindV} (hs : SmallK ks) (he : EndsAll ks) : ∀ (n : Nat) {x : Int}, x < ks.length → (upZ ks x).length = n → slotsN ks x ≤ 64 * n
 | n, x, hx, hn => by
  by_cases h0 : x < 0
  ·rw [slotsN_end h0]; exact Nat.zero_le _
  ·obtain ⟨j, rfl⟩ := Int.eq_ofNat_of_zero_le (show 0 ≤ x by omega)
   have hj : j < ks.length := by omega
   rw [upZ_step he hj, List.length_cons] at hn
   cases n with
   | zero => omega
   | succ n =>
    have h1 := slotsN_le hs he n (superZ_lt ks j) (by omega)
    have h2 := countL_le 0 (ks.getD j default).fields
    have h3 := (hs.2 _ (getD_mem hj)).1
    rw [slotsN_step he hj]
    omega
theorem slotsN_small {ks : List KindV} (hs : SmallK ks) (he : EndsAll ks) {x : Int} (hx : x < ks.length) : slotsN ks x ≤ 4160 := by
 have h1 := slotsN_le hs he _ hx rfl
 have h2 := upZ_len hs x
 omega
end Go.Proofs.YtinbelghhfodiaaGreatDoor
