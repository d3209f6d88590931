/- Lists of types as values: read, and owned; a method's descriptor in plain words. No condition. -/
import Derived.Test.YtebeoganblcblaaKndC
import Derived.Test.YtebeoganblcblaaClsB
import Derived.Test.YtebeoganblcblaaBig
namespace Go.Proofs.Ytebeoganblcblaa
open Go.RowKit
set_option linter.unusedVariables false
set_option linter.unusedSimpArgs false

structure TypeAt (w : World) (b o i : Nat) (k : TypeV) : Prop where
  c0 : w.cell? ⟨b, o + i * 5, none⟩ = some (.int .i64 k.k)
  c1 : w.cell? ⟨b, o + i * 5 + 1, none⟩ = some (.string k.name)
  c2 : w.cell? ⟨b, o + i * 5 + 2, none⟩ = some (.int .i64 k.dims)
  c3 : w.cell? ⟨b, o + i * 5 + 3, none⟩ = some (.int .i64 k.elem)
  c4 : w.cell? ⟨b, o + i * 5 + 4, none⟩ = some (.int .i64 k.at_)
def Types (w : World) (v : Value) (l : List TypeV) : Prop := Sl v l.length (fun b o i => TypeAt w b o i (l.getD i default))
theorem TypeAt.only {S : Nat → Prop} {w w' : World} {b o i : Nat} {k : TypeV} (h : TypeAt w b o i k) (ho : Only S w w') (hs : ¬ S b) : TypeAt w' b o i k :=
  ⟨ho.cell h.c0 hs, ho.cell h.c1 hs, ho.cell h.c2 hs, ho.cell h.c3 hs, ho.cell h.c4 hs⟩
theorem Types.only {w w' : World} {v : Value} {l : List TypeV} (h : Types w v l) (ho : Only (fun _ => False) w w') : Types w' v l := h.imp (fun _ _ _ _ _ h => h.only ho (fun h => h))
theorem Types.nil (w : World) : Types w (.slice none 0 0) [] := Sl.nil _
/-- An owned row of types. -/
def TRow (w : World) (B : Nat) (v : Value) (l : List TypeV) : Prop := w.ownsRow B 32 5 v l.length (l.flatMap cellsTy)
theorem cellsT_at : ∀ {cs : List TypeV} {i d : Nat}, i < cs.length → d < 5 → (cs.flatMap cellsTy)[i * 5 + d]? = (cellsTy (cs.getD i default))[d]?
  | c :: r, 0, d, _, hd => by
    rw [List.flatMap_cons, List.getElem?_append_left (by simp [cellsTy]; omega)]
    simp
  | c :: r, i + 1, d, hi, hd => by
    rw [List.flatMap_cons, List.getElem?_append_right (by simp [cellsTy]; omega)]
    have : (i + 1) * 5 + d - (cellsTy c).length = i * 5 + d := by simp [cellsTy]; omega
    rw [this, cellsT_at (by simpa using hi) hd]
    simp
theorem TRow.types {w : World} {B : Nat} {v : Value} {cs : List TypeV} (h : TRow w B v cs) : Types w v cs := by
  rcases h.2 with ⟨rfl, hn⟩ | ⟨g, cap, cur, rfl, hb, hg, hnc, hcm, hcs, htake⟩
  · have : cs = [] := List.eq_nil_of_length_eq_zero hn
    subst this
    exact Sl.nil _
  · refine ⟨_, cap, rfl, hnc, by unfold maxLen at hcm; omega, (fun e => by cases e), fun x hx _ => ?_⟩
    cases hx
    refine ⟨g, 0, rfl, fun i hi => ?_⟩
    have hc : ∀ d, d < 5 → w.cell? ⟨g, 0 + i * 5 + d, none⟩ = (cellsTy (cs.getD i default))[d]? := fun d hd => by
      rw [Nat.zero_add, ← cellsT_at hi hd]
      exact (show w.ownsRow B _ 5 _ _ _ from h).cellAt (g := g) (cap := cap) (i * 5 + d) (by omega)
    exact ⟨hc 0 (by decide), hc 1 (by decide), hc 2 (by decide), hc 3 (by decide), hc 4 (by decide)⟩
theorem TRow.only {S : Nat → Prop} {w w' : World} {B : Nat} {v : Value} {cs : List TypeV} (h : TRow w B v cs) (ho : Only S w w') (hs : ∀ k, v.ownBlock = some k → ¬ S k) : TRow w' B v cs := ho.owns h hs
theorem TRow.ge {w : World} {B : Nat} {v : Value} {cs : List TypeV} (h : TRow w B v cs) : ∀ k, v.ownBlock = some k → B ≤ k ∧ k < w.heap.size := fun k hk => World.ownsRow.lt h k hk
theorem TRow.nil (w : World) (B : Nat) : TRow w B (.slice none 0 0) [] := World.ownsRow_nil _ _ _ _
/-- A new row of one type, as what is appended. -/
theorem Src.type {w : World} {m : Nat} (c : TypeV) (h : w.heap.size = m) : Src (w.alloc (.cells #[.int .i64 c.k, .string c.name, .int .i64 c.dims, .int .i64 c.elem, .int .i64 c.at_] 32)) 5 (.slice (some ⟨m, 0, none⟩) 1 1) 1 (cellsTy c) := by
  subst h
  refine ⟨rfl, ?_, _, 1, rfl, (fun e => by cases e), fun ad hd j u hj => ?_⟩
  · intro x hx
    simp only [cellsTy, List.mem_cons, List.mem_nil_iff, or_false] at hx
    rcases hx with rfl | rfl | rfl | rfl | rfl <;> rfl
  · cases hd
    rw [add_lit, Nat.zero_add, cell_blk (heap_alloc_new w _)]
    simpa [cellsTy] using hj
/-- One type more. -/
theorem TRow.more {w3 : World} {B : Nat} {v' : Value} {cs : List TypeV} {c : TypeV} (hown : w3.ownsRow B 32 5 v' (cs.length + 1) (cs.flatMap cellsTy ++ cellsTy c)) : TRow w3 B v' (cs ++ [c]) := by
  unfold TRow
  rw [List.length_append, List.flatMap_append]
  simpa using hown
theorem info_type : (Try.prog.info? 32).map (fun i => (i.zero, i.size, i.bytes)) = some (some (.agg #[.int .i64 0, .string ⟨#[]⟩, .int .i64 0, .int .i64 0, .int .i64 0]), 5, 48) := by kernel_rfl
theorem only_grownT {w2 w3 : World} {v : Value} (hg : w2.grownBy w3 v.ownBlock) : Only (fun k => v.ownBlock = some k) w2 w3 := (Only.refl _ _).grown hg (fun k hk _ => hk)

/-! A method's descriptor. -/
/-- The first so many parameters, and what is left. -/
def parN (zs : List Int) : Nat → Option (List TypeV × List Int)
  | 0 => some ([], zs)
  | n + 1 =>
    match parN zs n with
    | none => none
    | some (l, r) =>
      match r with
      | [] => none
      | c :: q =>
        if c = 41 then none else
        match fieldZ (c :: q) with
        | none => none
        | some (t, r') => if l.length < 16 then some (l ++ [t], r') else none
def Par (zs : List Int) (l : List TypeV) (r : List Int) : Prop := parN zs l.length = some (l, r)
theorem Par.nil (zs : List Int) : Par zs [] zs := rfl
theorem parN_pred {zs : List Int} {n : Nat} {l : List TypeV} {r : List Int} (h : parN zs (n + 1) = some (l, r)) :
    ∃ l' c q t, parN zs n = some (l', c :: q) ∧ c ≠ 41 ∧ fieldZ (c :: q) = some (t, r) ∧ l'.length < 16 ∧ l = l' ++ [t] := by
  unfold parN at h
  cases hs : parN zs n with
  | none => rw [hs] at h; cases h
  | some p =>
    obtain ⟨l', r0⟩ := p
    rw [hs] at h
    simp only at h
    cases r0 with
    | nil => cases h
    | cons c q =>
      simp only at h
      split at h
      · cases h
      rename_i hc
      cases hf : fieldZ (c :: q) with
      | none => rw [hf] at h; cases h
      | some p2 =>
        obtain ⟨t, r'⟩ := p2
        rw [hf] at h
        simp only at h
        split at h
        · simp only [Option.some.injEq, Prod.mk.injEq] at h
          obtain ⟨rfl, rfl⟩ := h
          exact ⟨l', c, q, t, rfl, hc, hf, by assumption, rfl⟩
        · cases h
theorem parN_len {zs : List Int} : ∀ {n : Nat} {l : List TypeV} {r : List Int}, parN zs n = some (l, r) → l.length = n
  | 0, l, r, h => by simp only [parN, Option.some.injEq, Prod.mk.injEq] at h; rw [← h.1]; rfl
  | n + 1, l, r, h => by
    obtain ⟨l', c, q, t, hs, _, _, _, rfl⟩ := parN_pred h
    rw [List.length_append, parN_len hs]; rfl
theorem parN_rest {zs : List Int} : ∀ {n : Nat} {l : List TypeV} {r : List Int}, parN zs n = some (l, r) → n ≤ 16 ∧ ∃ m, r = zs.drop m
  | 0, l, r, h => by
    simp only [parN, Option.some.injEq, Prod.mk.injEq] at h
    exact ⟨by omega, 0, h.2.symm⟩
  | n + 1, l, r, h => by
    obtain ⟨l', c, q, t, hs, _, hf, hl, rfl⟩ := parN_pred h
    obtain ⟨_, m, hm⟩ := parN_rest hs
    obtain ⟨k, hk, _⟩ := field_rest hf
    have := parN_len hs
    exact ⟨by omega, m + k, by rw [hk, hm, List.drop_drop]⟩
theorem Par.snoc {zs : List Int} {l : List TypeV} {c : Int} {q r : List Int} {t : TypeV} (h : Par zs l (c :: q)) (hc : c ≠ 41) (hf : fieldZ (c :: q) = some (t, r)) (hl : l.length < 16) : Par zs (l ++ [t]) r := by
  unfold Par at h ⊢
  rw [List.length_append, List.length_singleton]
  unfold parN
  rw [h]
  simp only
  rw [if_neg hc, hf]
  simp only
  rw [if_pos hl]
/-- The parameters end here. -/
def Stop (l : List TypeV) (r : List Int) : Prop := ∀ c q, r = c :: q → c ≠ 41 → ∀ t r', fieldZ (c :: q) = some (t, r') → ¬ l.length < 16
theorem parN_mono {zs : List Int} : ∀ {m n : Nat}, n ≤ m → ∀ {q}, parN zs m = some q → ∃ q', parN zs n = some q'
  | 0, n, h, q, hq => by
    obtain rfl : n = 0 := by omega
    exact ⟨_, hq⟩
  | m + 1, n, h, q, hq => by
    by_cases e : n = m + 1
    · subst e; exact ⟨_, hq⟩
    · obtain ⟨l, p⟩ := q
      obtain ⟨l', c, q, t, hs, _⟩ := parN_pred hq
      exact parN_mono (by omega) hs
theorem par_unique {zs : List Int} {l l' : List TypeV} {r r' : List Int} (h : Par zs l r) (h' : Par zs l' r') (hs : Stop l r) (hs' : Stop l' r') : l = l' ∧ r = r' := by
  have key : ∀ {l l' : List TypeV} {r r' : List Int}, Par zs l r → Par zs l' r' → Stop l r → ¬ l.length < l'.length := by
    intro l l' r r' h h' hs hlt
    obtain ⟨q, hq⟩ := parN_mono (n := l.length + 1) (by omega) h'
    obtain ⟨l2, p2⟩ := q
    obtain ⟨l3, c, q, t, h3, h4, h5, h6, _⟩ := parN_pred hq
    unfold Par at h
    rw [h] at h3
    injection h3 with h3
    injection h3 with e1 e2
    subst e1
    exact hs c q e2 h4 t p2 h5 h6
  have e : l.length = l'.length := by
    have := key h h' hs
    have := key h' h hs'
    omega
  unfold Par at h h'
  rw [e, h'] at h
  injection h with h
  injection h with e1 e2
  exact ⟨e1.symm, e2.symm⟩
def voidT : TypeV := ⟨8, ⟨#[]⟩, 0, 0, 0⟩
/-- What a method's descriptor behind its bracket says, once its parameters end. -/
def endM (l : List TypeV) (r : List Int) : List TypeV × TypeV × Int :=
  match r with
  | [] => ([], zeroT, 80)
  | c :: q => if c = 41 then (if q = [86] then (l, voidT, 0) else match oneZ8 q with | some t => (l, t, 0) | none => ([], zeroT, 80)) else ([], zeroT, 80)
/-- What Method answers. -/
def Meth (zs : List Int) (x : List TypeV × TypeV × Int) : Prop :=
  (¬ (∃ q, zs = 40 :: q) ∧ x = ([], zeroT, 80)) ∨ ∃ q l r, zs = 40 :: q ∧ Par q l r ∧ Stop l r ∧ x = endM l r
theorem Meth.unique {zs : List Int} {x x' : List TypeV × TypeV × Int} (h : Meth zs x) (h' : Meth zs x') : x = x' := by
  rcases h with ⟨h1, rfl⟩ | ⟨q, l, r, rfl, hp, hs, rfl⟩ <;> rcases h' with ⟨h1', rfl⟩ | ⟨q', l', r', hq, hp', hs', rfl⟩
  · rfl
  · exact absurd ⟨_, hq⟩ h1
  · exact absurd ⟨_, rfl⟩ h1'
  · injection hq with _ hq
    subst hq
    obtain ⟨rfl, rfl⟩ := par_unique hp hp' hs hs'
    rfl
end Go.Proofs.Ytebeoganblcblaa
