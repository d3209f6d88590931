import Derived.Test.YtgdgffnaknkbcaaGreatDoorMlPolDPolE
import Derived.Test.YtgdgffnaknkbcaaGreatDoorMlLnkFKndT
import Derived.RangeFuncNested
import Derived.RangeFuncBound
import Derived.RangeFuncCalls
import Derived.RangeFuncLeaves
import Derived.RangeFuncBox
import Derived.Shelf.Abstract
import Derived.WalkKit
import Derived.OwnWalkIn
import Derived.TacticsInMore
import Derived.LoopNIn
import Derived.LoopIn
import Derived.Maps.OwnSet
import Derived.Maps.OwnIn
import Derived.Maps.Views
import Derived.StringKeys
import Derived.Test.YtgdgffnaknkbcaaGreatDoorMlKndCLnkB
namespace Go.Proofs.YtgdgffnaknkbcaaGreatDoor
open Go.RowKit
set_option linter.unusedVariables false
set_option linter.unusedSimpArgs false
theorem text256 {x : ByteArray} (h : ¬ TextBad x) : x.size ≤ 256 := by
 unfold TextBad at h
 have h' : ∃ ys k, Enc (nums x) ys k ∧ ¬ (k ≠ 0 ∨ 256 < ys.length) := Classical.byContradiction (fun hn => h (fun ys k he => Classical.byContradiction (fun hb => hn ⟨ys, k, he, hb⟩)))
 obtain ⟨ys, k, he, hb⟩ := h'
 have hk : k = 0 := Classical.byContradiction (fun hk => hb (.inl hk))
 have hl : ys.length ≤ 256 := Classical.byContradiction (fun hk => hb (.inr (by omega)))
 subst hk
 rcases he with ⟨cs, ht, rfl, _⟩ | ⟨_, _, h0⟩
 ·have h1 := (M8s_len ht.1).1
  have h2 : (nums x).length = (U8s cs).length := by rw [ht.2]
  rw [nums_len] at h2
  omega
 ·cases h0
theorem pool256 {cs : List ConstV} (h : checkZ cs = 0) (i : Int) : (textZ cs i).1.size ≤ 256 := by
 unfold textZ
 by_cases hi : isZ cs i 1 = true
 ·rw [if_pos hi]
  obtain ⟨j, rfl, h1, h2, h3⟩ := isZ_lt hi
  have := (checkZ_zero h).2.2.2 j h1 h2
  show (cs.getD j default).text.size ≤ 256
  unfold oneZ at this
  by_cases hb : bareZ (cs.getD j default) = false
  ·rw [if_pos hb] at this; exact absurd this (by decide)
  ·rw [if_neg hb, if_pos h3] at this
   by_cases ht : TextBad (cs.getD j default).text
   ·rw [if_pos ht] at this; exact absurd this (by decide)
   ·exact text256 ht
 ·rw [if_neg hi]; decide
theorem class256 {cs : List ConstV} (h : checkZ cs = 0) (i : Int) : (classZ cs i).1.size ≤ 256 := by
 unfold classZ
 split
 ·exact pool256 h _
 ·decide
theorem fine_load {c : ClassV} (h : clsZ c = 0) (i : Nat) : FineK (loadZ c i) := by
 obtain ⟨h1, h2, h3⟩ := clsZ_zero h
 have h4 : ¬ 64 < c.fields.length := fun x => h2 (.inl x)
 have h5 : ¬ 64 < c.methods.length := fun x => h2 (.inr (.inl x))
 refine ⟨?_, ?_, ?_, ?_, class256 h1 _, class256 h1 _, ?_, ?_⟩
 ·show (c.fields.map _).length ≤ 64
  rw [List.length_map]; omega
 ·show (c.methods.map _).length ≤ 64
  rw [List.length_map]; omega
 ·intro m hm
  obtain ⟨f, hf, rfl⟩ := List.mem_map.1 hm
  exact (h3.2.2.1 f hf).1
 ·intro m hm
  obtain ⟨f, hf, rfl⟩ := List.mem_map.1 hm
  exact (h3.2.2.2 f hf).1.1
 ·intro m hm
  obtain ⟨f, hf, rfl⟩ := List.mem_map.1 hm
  exact ⟨pool256 h1 _, pool256 h1 _⟩
 ·intro m hm
  obtain ⟨f, hf, rfl⟩ := List.mem_map.1 hm
  exact ⟨pool256 h1 _, pool256 h1 _⟩
theorem fine_begin {k : KindV} (hn : k.name.size ≤ 256) (hs : k.super.size ≤ 256) (hf : k.fields = []) (hl : k.meths.length ≤ 64) (hm : ∀ m ∈ k.meths, (m.flags = 0 ∨ m.flags = 8) ∧ m.name.size ≤ 256 ∧ m.desc.size ≤ 256) : FineK k :=
 ⟨by rw [hf]; decide, hl, by rw [hf]; exact (fun m h => by cases h), fun m h => (hm m h).1, hn, hs, by rw [hf]; exact (fun m h => by cases h), fun m h => (hm m h).2⟩
theorem fine_err {n : ByteArray} (h : n.size ≤ 256) : FineK (errK n) := fine_begin h (show thrB.size ≤ 256 by decide) rfl (show [beginM].length ≤ 64 by decide) (fun m hm => by
 simp only [errK, List.mem_cons, List.mem_nil_iff, or_false] at hm
 subst hm
 exact ⟨.inl rfl, by decide, by decide⟩)
theorem fine_built : ∀ k ∈ builtK, FineK k := by
 intro k hk
 simp only [builtK, List.mem_cons, List.mem_nil_iff, or_false] at hk
 rcases hk with rfl | rfl | rfl | rfl | rfl | rfl | rfl | rfl | rfl | rfl | rfl | rfl | rfl
 ·exact fine_begin (by decide) (by decide) rfl (by decide) (fun m hm => by
   simp only [List.mem_cons, List.mem_nil_iff, or_false] at hm
   rcases hm with rfl | rfl | rfl | rfl <;> exact ⟨.inl rfl, by decide, by decide⟩)
 ·exact fine_begin (by decide) (by decide) rfl (by decide) (fun m hm => by
   simp only [List.mem_cons, List.mem_nil_iff, or_false] at hm
   subst hm; exact ⟨.inl rfl, by decide, by decide⟩)
 ·exact fine_begin (by decide) (by decide) rfl (by decide) (fun m hm => by
   simp only [List.mem_cons, List.mem_nil_iff, or_false] at hm
   rcases hm with rfl | rfl | rfl | rfl <;> exact ⟨.inl rfl, by decide, by decide⟩)
 ·exact fine_begin (by decide) (by decide) rfl (by decide) (fun m hm => by
   simp only [List.mem_cons, List.mem_nil_iff, or_false] at hm
   rcases hm with rfl | rfl | rfl <;> exact ⟨.inr rfl, by decide, by decide⟩)
 all_goals exact fine_err (by decide)
theorem listK_mem : ∀ {cs : List ClassV} {i : Nat} {k : KindV}, k ∈ listK cs i → ∃ c ∈ cs, ∃ j, k = loadZ c j
 | c :: r, i, k, h => by
  rcases List.mem_cons.1 h with rfl | h
  ·exact ⟨c, by simp, i, rfl⟩
  ·obtain ⟨d, hd, j, e⟩ := listK_mem h
   exact ⟨d, by simp [hd], j, e⟩
theorem fine_all {cs : List ClassV} (h : ∀ c ∈ cs, clsZ c = 0) : ∀ k ∈ kindsZ cs, FineK k := by
 intro k hk
 rcases List.mem_append.1 hk with hk | hk
 ·exact fine_built k hk
 ·obtain ⟨c, hc, j, rfl⟩ := listK_mem hk
  exact fine_load (h c hc) j
theorem fine_small {cs : List ClassV} (h : ∀ c ∈ cs, clsZ c = 0) (hl : cs.length ≤ 16) : SmallK (kindsZ cs) := ⟨by rw [kindsZ_len]; omega, fun k hk => ⟨(fine_all h k hk).fields, (fine_all h k hk).meths⟩⟩
theorem pairFrom_app (x : ByteArray) : ∀ (a b : List PairV) (i : Nat), pairFrom x i (a ++ b) = if pairFrom x i a < 0 then pairFrom x (i + a.length) b else pairFrom x i a
 | [], b, i => by show _ = if (-1 : Int) < 0 then _ else _; rw [if_pos (by decide)]; rfl
 | p :: a, b, i => by
  rw [List.cons_append, pairFrom, pairFrom]
  by_cases h : p.name = x
  ·rw [if_pos h, if_pos h, if_neg (by omega)]
  ·rw [if_neg h, if_neg h, pairFrom_app x a b (i + 1), List.length_cons, show i + 1 + a.length = i + (a.length + 1) by omega]
theorem findZ_app (a b : List KindV) (x : ByteArray) : findZ (a ++ b) x = if findZ a x < 0 then pairFrom x a.length (treeZ b) else findZ a x := by
 unfold findZ pairOf
 rw [show treeZ (a ++ b) = treeZ a ++ treeZ b by simp [treeZ], pairFrom_app, treeZ_len, Nat.zero_add]
theorem builtK_find : ∀ j, j < 13 → findZ builtK (builtK.getD j default).name = (j : Int) := by decide
theorem find_built {cs : List ClassV} {j : Nat} (h : j < 13) : findZ (kindsZ cs) ((kindsZ cs).getD j default).name = (j : Int) := by
 rw [kindsZ_built h, kindsZ, findZ_app, builtK_find j h, if_neg (by omega)]
theorem find_obj (cs : List ClassV) : findZ (kindsZ cs) objB = 0 := find_built (cs := cs) (j := 0) (by decide)
theorem find_thr (cs : List ClassV) : findZ (kindsZ cs) thrB = 1 := find_built (cs := cs) (j := 1) (by decide)
theorem builtK_super : ∀ j, 1 ≤ j → j < 13 → (builtK.getD j default).super = objB ∨ (builtK.getD j default).super = thrB := fun j h1 h => (show ∀ j, j < 13 → 1 ≤ j → (builtK.getD j default).super = objB ∨ (builtK.getD j default).super = thrB by decide) j h h1
theorem super_zero (ks : List KindV) : superZ ks 0 = -1 := if_pos (by decide)
theorem super_one (cs : List ClassV) : superZ (kindsZ cs) 1 = 0 := by
 have := kindsZ_len cs
 unfold superZ
 rw [if_neg (by decide), if_neg (by omega)]
 exact find_obj cs
theorem super_built {cs : List ClassV} {j : Nat} (h1 : 1 ≤ j) (h : j < 13) : superZ (kindsZ cs) (j : Int) = 0 ∨ superZ (kindsZ cs) (j : Int) = 1 := by
 have := kindsZ_len cs
 unfold superZ
 rw [if_neg (by omega), if_neg (by omega), Int.toNat_natCast, kindsZ_built h]
 rcases builtK_super j h1 h with e | e
 ·rw [e]; exact .inl (find_obj cs)
 ·rw [e]; exact .inr (find_thr cs)
theorem super_list {ks : List KindV} {j : Nat} (h1 : 1 ≤ j) (h : j < ks.length) : superZ ks (j : Int) = findZ ks (ks.getD j default).super := by
 unfold superZ
 rw [if_neg (by omega), if_neg (by omega), Int.toNat_natCast]
theorem Ends.neg {ks : List KindV} {f : Nat} {x : Int} (h : x < 0) : Ends ks f x := by cases f with | zero => exact h | succ f => exact .inl h
theorem Ends.plus {ks : List KindV} {f : Nat} {x : Int} (h : Ends ks f x) : ∀ k, Ends ks (f + k) x
 | 0 => h
 | k + 1 => (h.plus k).more
theorem tops_ends {ks : List KindV} : ∀ {f : Nat} {x : Int}, topsF ks f x = true → Ends ks f x
 | 0, x, h => by cases h
 | f + 1, x, h => by
  unfold topsF at h
  by_cases h0 : x = 0
  ·subst h0
   exact .inr (by rw [super_zero]; exact Ends.neg (by decide))
  ·rw [if_neg h0] at h
   by_cases h1 : superZ ks x < 0
   ·rw [if_pos h1] at h; cases h
   ·rw [if_neg h1] at h
    by_cases h2 : (ks.getD (superZ ks x).toNat default).name = sysB
    ·rw [if_pos h2] at h; cases h
    ·rw [if_neg h2] at h
     exact .inr (tops_ends h)
theorem ends_built {cs : List ClassV} {j : Nat} (h : j < 13) : Ends (kindsZ cs) 4 (j : Int) := by
 have e0 : Ends (kindsZ cs) 2 0 := .inr (by rw [super_zero]; exact Ends.neg (by decide))
 have e1 : Ends (kindsZ cs) 3 1 := .inr (by rw [super_one]; exact e0)
 by_cases h0 : j = 0
 ·subst h0; exact e0.plus 2
 ·refine .inr ?_
  rcases super_built (cs := cs) (show 1 ≤ j by omega) h with e | e
  ·rw [e]; exact e0.plus 1
  ·rw [e]; exact e1
theorem ends_all {cs : List ClassV} (h : ∀ j, 13 ≤ j → j < (kindsZ cs).length → topsZ (kindsZ cs) (j : Int) = true) : EndsAll (kindsZ cs) := fun x hx => by
 have hl := kindsZ_len cs
 by_cases h0 : x < 0
 ·exact Ends.neg h0
 ·obtain ⟨j, rfl⟩ := Int.eq_ofNat_of_zero_le (show 0 ≤ x by omega)
  by_cases h13 : j < 13
  ·have := (ends_built (cs := cs) h13).plus ((kindsZ cs).length + 1 - 4)
   rwa [show 4 + ((kindsZ cs).length + 1 - 4) = (kindsZ cs).length + 1 by omega] at this
  ·exact tops_ends (h j (by omega) (by omega))
theorem once_all {cs : List ClassV} (h : ∀ j, 13 ≤ j → j < (kindsZ cs).length → findZ (kindsZ cs) ((kindsZ cs).getD j default).name = (j : Int)) : NamesOnce (kindsZ cs) := fun j hj => by
 by_cases h13 : j < 13
 ·exact find_built h13
 ·exact h j (by omega) hj
theorem pairFrom_hit {x : ByteArray} : ∀ {l : List PairV} {i n : Nat}, pairFrom x i l = (n : Int) → i ≤ n ∧ n < i + l.length ∧ (l.getD (n - i) default).name = x
 | [], i, n, h => by simp [pairFrom] at h <;> omega
 | p :: r, i, n, h => by
  rw [pairFrom] at h
  by_cases hp : p.name = x
  ·rw [if_pos hp] at h
   obtain rfl : i = n := by omega
   exact ⟨Nat.le_refl _, by simp, by simpa using hp⟩
  ·rw [if_neg hp] at h
   obtain ⟨h1, h2, h3⟩ := pairFrom_hit h
   refine ⟨by omega, by rw [List.length_cons]; omega, ?_⟩
   rw [show n - i = (n - (i + 1)) + 1 by omega]
   exact h3
theorem find_hit {ks : List KindV} {x : ByteArray} {n : Nat} (h : findZ ks x = (n : Int)) : n < ks.length ∧ (ks.getD n default).name = x := by
 obtain ⟨_, h2, h3⟩ := pairFrom_hit (show pairFrom x 0 (treeZ ks) = _ from h)
 rw [treeZ_len, Nat.zero_add] at h2
 rw [Nat.sub_zero, treeZ_at h2] at h3
 exact ⟨h2, h3⟩
def cellsMe (m : MethN) : List Value := [.string m.name, .string m.desc, .int .i64 m.flags]
def MeRow (w : World) (B : Nat) (v : Value) (l : List MethN) : Prop := w.ownsRow B 61 3 v l.length (l.flatMap cellsMe)
theorem cellsMe_at : ∀ {cs : List MethN} {i d : Nat}, i < cs.length → d < 3 → (cs.flatMap cellsMe)[i * 3 + d]? = (cellsMe (cs.getD i default))[d]?
 | c :: r, 0, d, _, hd => by
  rw [List.flatMap_cons, List.getElem?_append_left (by simp [cellsMe]; omega)]
  simp
 | c :: r, i + 1, d, hi, hd => by
  rw [List.flatMap_cons, List.getElem?_append_right (by simp [cellsMe]; omega)]
  have : (i + 1) * 3 + d - (cellsMe c).length = i * 3 + d := by simp [cellsMe]; omega
  rw [this, cellsMe_at (by simpa using hi) hd]
  simp
theorem MeRow.meths {w : World} {B : Nat} {v : Value} {cs : List MethN} (h : MeRow w B v cs) : MethNs w v cs := by
 rcases h.2 with ⟨rfl, hn⟩ | ⟨g, cap, cur, rfl, hb, hg, hnc, hcm, hcs, htake⟩
 ·have : cs = [] := List.eq_nil_of_length_eq_zero hn
  subst this
  exact Sl.nil _
 ·refine ⟨_, cap, rfl, hnc, by unfold maxLen at hcm; omega, (fun e => by cases e), fun x hx _ => ?_⟩
  cases hx
  refine ⟨g, 0, rfl, fun i hi => ?_⟩
  have hc : ∀ d, d < 3 → w.cell? ⟨g, 0 + i * 3 + d, none⟩ = (cellsMe (cs.getD i default))[d]? := fun d hd => by
   rw [Nat.zero_add, ← cellsMe_at hi hd]
   exact (show w.ownsRow B _ 3 _ _ _ from h).cellAt (g := g) (cap := cap) (i * 3 + d) (by omega)
  exact ⟨hc 0 (by decide), hc 1 (by decide), hc 2 (by decide)⟩
theorem MeRow.only {S : Nat → Prop} {w w' : World} {B : Nat} {v : Value} {cs : List MethN} (h : MeRow w B v cs) (ho : Only S w w') (hs : ∀ k, v.ownBlock = some k → ¬ S k) : MeRow w' B v cs := ho.owns h hs
theorem MeRow.ge {w : World} {B : Nat} {v : Value} {cs : List MethN} (h : MeRow w B v cs) : ∀ k, v.ownBlock = some k → B ≤ k ∧ k < w.heap.size := fun k hk => World.ownsRow.lt h k hk
theorem MeRow.nil (w : World) (B : Nat) : MeRow w B (.slice none 0 0) [] := World.ownsRow_nil _ _ _ _
theorem MeRow.slice {w : World} {B : Nat} {v : Value} {l : List MethN} (h : MeRow w B v l) : ∃ ao cap, v = .slice ao l.length cap := by
 obtain ⟨ao, cap, e, -⟩ := slice_of_owns h
 exact ⟨ao, cap, e⟩
theorem MeRow.more {w3 : World} {B : Nat} {v' : Value} {cs : List MethN} {c : MethN} (hown : w3.ownsRow B 61 3 v' (cs.length + 1) (cs.flatMap cellsMe ++ cellsMe c)) : MeRow w3 B v' (cs ++ [c]) := by
 unfold MeRow
 rw [List.length_append, List.flatMap_append]
 simpa using hown
theorem Src.methn {w : World} {m : Nat} (c : MethN) (h : w.heap.size = m) : Src (w.alloc (.cells #[.string c.name, .string c.desc, .int .i64 c.flags] 61)) 3 (.slice (some ⟨m, 0, none⟩) 1 1) 1 (cellsMe c) := by
 subst h
 refine ⟨rfl, ?_, _, 1, rfl, (fun e => by cases e), fun ad hd j u hj => ?_⟩
 ·intro x hx
  simp only [cellsMe, List.mem_cons, List.mem_nil_iff, or_false] at hx
  rcases hx with rfl | rfl | rfl <;> rfl
 ·cases hd
  rw [add_lit, Nat.zero_add, cell_blk (heap_alloc_new w _)]
  simpa [cellsMe] using hj
theorem info_methn : (Tryz.prog.info? 61).map (fun i => (i.zero, i.size, i.bytes)) = some (some (.agg #[.string ⟨#[]⟩, .string ⟨#[]⟩, .int .i64 0]), 3, 40) := by kernel_rfl
structure KdV where
 k : KindV
 vf : Value
 vm : Value
instance : Inhabited KdV := ⟨⟨default, .slice none 0 0, .slice none 0 0⟩⟩
def cellsKd (x : KdV) : List Value := [.string x.k.name, .string x.k.super, x.vf, x.vm, .int .i64 x.k.place]
def KdRow (w : World) (B : Nat) (v : Value) (l : List KdV) : Prop := w.ownsRow B 59 5 v l.length (l.flatMap cellsKd)
theorem cellsKd_at : ∀ {cs : List KdV} {i d : Nat}, i < cs.length → d < 5 → (cs.flatMap cellsKd)[i * 5 + d]? = (cellsKd (cs.getD i default))[d]?
 | c :: r, 0, d, _, hd => by
  rw [List.flatMap_cons, List.getElem?_append_left (by simp [cellsKd]; omega)]
  simp
 | c :: r, i + 1, d, hi, hd => by
  rw [List.flatMap_cons, List.getElem?_append_right (by simp [cellsKd]; omega)]
  have : (i + 1) * 5 + d - (cellsKd c).length = i * 5 + d := by simp [cellsKd]; omega
  rw [this, cellsKd_at (by simpa using hi) hd]
  simp
def KdS (w : World) (v : Value) (l : List KdV) : Prop := Sl v l.length (fun b o i => KindAt w b o i (l.getD i default).k (l.getD i default).vf (l.getD i default).vm)
theorem KdRow.kds {w : World} {B : Nat} {v : Value} {cs : List KdV} (h : KdRow w B v cs) : KdS w v cs := by
 rcases h.2 with ⟨rfl, hn⟩ | ⟨g, cap, cur, rfl, hb, hg, hnc, hcm, hcs, htake⟩
 ·have : cs = [] := List.eq_nil_of_length_eq_zero hn
  subst this
  exact Sl.nil _
 ·refine ⟨_, cap, rfl, hnc, by unfold maxLen at hcm; omega, (fun e => by cases e), fun x hx _ => ?_⟩
  cases hx
  refine ⟨g, 0, rfl, fun i hi => ?_⟩
  have hc : ∀ d, d < 5 → w.cell? ⟨g, 0 + i * 5 + d, none⟩ = (cellsKd (cs.getD i default))[d]? := fun d hd => by
   rw [Nat.zero_add, ← cellsKd_at hi hd]
   exact (show w.ownsRow B _ 5 _ _ _ from h).cellAt (g := g) (cap := cap) (i * 5 + d) (by omega)
  exact ⟨hc 0 (by decide), hc 1 (by decide), hc 2 (by decide), hc 3 (by decide), hc 4 (by decide)⟩
theorem KdRow.only {S : Nat → Prop} {w w' : World} {B : Nat} {v : Value} {cs : List KdV} (h : KdRow w B v cs) (ho : Only S w w') (hs : ∀ k, v.ownBlock = some k → ¬ S k) : KdRow w' B v cs := ho.owns h hs
theorem KdRow.ge {w : World} {B : Nat} {v : Value} {cs : List KdV} (h : KdRow w B v cs) : ∀ k, v.ownBlock = some k → B ≤ k ∧ k < w.heap.size := fun k hk => World.ownsRow.lt h k hk
theorem KdRow.slice {w : World} {B : Nat} {v : Value} {l : List KdV} (h : KdRow w B v l) : ∃ ao cap, v = .slice ao l.length cap := by
 obtain ⟨ao, cap, e, -⟩ := slice_of_owns h
 exact ⟨ao, cap, e⟩
theorem KdRow.more {w3 : World} {B : Nat} {v' : Value} {cs : List KdV} {c : KdV} (hown : w3.ownsRow B 59 5 v' (cs.length + 1) (cs.flatMap cellsKd ++ cellsKd c)) : KdRow w3 B v' (cs ++ [c]) := by
 unfold KdRow
 rw [List.length_append, List.flatMap_append]
 simpa using hown
theorem Src.kind {w : World} {m : Nat} (n s : ByteArray) (vf vm : Value) (p : Int) (x : KdV) (hx : cellsKd x = [.string n, .string s, vf, vm, .int .i64 p]) (hf : vf.oneCell' = true) (hm : vm.oneCell' = true) (h : w.heap.size = m) : Src (w.alloc (.cells #[.string n, .string s, vf, vm, .int .i64 p] 59)) 5 (.slice (some ⟨m, 0, none⟩) 1 1) 1 (cellsKd x) := by
 subst h
 rw [hx]
 refine ⟨rfl, ?_, _, 1, rfl, (fun e => by cases e), fun ad hd j u' hj => ?_⟩
 ·intro x hx
  simp only [List.mem_cons, List.mem_nil_iff, or_false] at hx
  rcases hx with rfl | rfl | rfl | rfl | rfl
  ·rfl
  ·rfl
  ·exact hf
  ·exact hm
  ·rfl
 ·cases hd
  rw [add_lit, Nat.zero_add, cell_blk (heap_alloc_new w _)]
  simpa using hj
theorem info_kindd : (Tryz.prog.info? 59).map (fun i => (i.zero, i.size, i.bytes)) = some (some (.agg #[.string ⟨#[]⟩, .string ⟨#[]⟩, .slice none 0 0, .slice none 0 0, .int .i64 0]), 5, 88) := by kernel_rfl
theorem KdS.kinds {w : World} {v : Value} {l : List KdV} (h : KdS w v l) (hm : ∀ x ∈ l, MethNs w x.vf x.k.fields ∧ MethNs w x.vm x.k.meths) : Kinds w v (l.map KdV.k) := by
 have hg : ∀ i, i < l.length → (l.map KdV.k).getD i default = (l.getD i default).k := fun i hi => by simp [List.getD, hi]
 refine ⟨fun i => ((l.getD i default).vf, (l.getD i default).vm), ?_, fun i hi => ?_⟩
 ·rw [List.length_map]
  exact h.imp (fun b o i _ hi hk => by rw [hg i hi]; exact hk)
 ·rw [List.length_map] at hi
  rw [hg i hi]
  refine hm _ ?_
  rw [show l.getD i default = l[i] by simp [List.getD, hi]]
  exact List.getElem_mem hi
end Go.Proofs.YtgdgffnaknkbcaaGreatDoor
namespace Go.Proofs.YtgdgffnaknkbcaaGreatDoor
open Go.RowKit Go.Shelf Go.Maps
set_option linter.unusedVariables false
set_option linter.unusedSimpArgs false
attribute [local go_sem] Oper.semAt_some
theorem beq_bytes (a b : ByteArray) : (a.toList == b.toList) = decide (a = b) := by
 by_cases h : a = b
 ·subst h; simp
 ·rw [(toList_beq h).1]
  simp [h]
set_option maxHeartbeats 2000000 in
set_option maxRecDepth 100000 in
theorem progNamed (p : PairV) (x : ByteArray) (b : Nat) (w : World) (hx : w.cell? ⟨b, 0, none⟩ = some (.string x)) : Calls Tryz.prog 127 #[.agg #[.string p.name, .string p.super], .pointer (some ⟨b, 0, none⟩)] w fun e w' => e = .returned (.bool (decide (p.name = x))) ∧ Only (fun _ => False) w w' := by
 have ho := (Only.refl (fun _ => False) w).alloc (.cells #[.string p.name, .string p.super] 95)
 have hx2 := ho.cell hx (fun h => h)
 have HO := Lib.hid ho
 rw [← beq_bytes]
 clear ho hx
 go_enter Tryz.func127, Tryz.ntmps127
 go_wp2
 go_ret
 exact ⟨rfl, HO.out⟩
set_option maxHeartbeats 4000000 in
set_option maxRecDepth 100000 in
theorem indexPr (v : Value) (l : List PairV) (x : ByteArray) (b : Nat) (w : World) (hl : Pairs w v l) (hx : w.cell? ⟨b, 0, none⟩ = some (.string x)) (hn : l.length ≤ 9223372036854775806) :
  Calls Tryz.prog 126 #[v, .func (.func 127) #[] #[.pointer (some ⟨b, 0, none⟩)]] w fun e w' => e = .returned (.int .i64 (pairOf l x)) ∧ Only (fun _ => False) w w' := by
 obtain ⟨ao, cap, rfl, h1, h2, h3, h4⟩ := id hl
 have HL := Lib.hid hl
 have HX := Lib.hid hx
 have hen : ∀ args w, (callFunc 127 args).run Tryz.prog w = .ok (.enter 127 args) w := enters_of Tryz.func127 (by kernel_rfl) rfl
 clear hl h3 h4 hx
 go_enter Tryz.func126, Tryz.ntmps126
 go_wp2
 go_loopw [8] (fun i wr => ∃ j : Nat, i = .int .i64 j ∧ j ≤ l.length ∧ pairOf l x = pairFrom x j (l.drop j) ∧ Only (fun _ => False) w wr) (fun i _ => l.length - (intOf i).toNat)
 case atStart => exact ⟨0, rfl, Nat.zero_le _, rfl, Only.refl _ _⟩
 case round =>
  obtain ⟨j, rfl, hj, hat, hon⟩ := hrel
  have HON := Lib.hid hon
  by_cases hlt : j < l.length
  ·obtain ⟨bb, o, rfl, c⟩ := Sl.at (HL.out.only hon) hlt
   have hpf := pairFrom_at (x := x) hlt
   have hjz : (j : Int) < (l.length : Int) := by omega
   have c1 := progNamed (l.getD j default) x b wr (hon.cell HX.out (fun h => h))
   obtain ⟨q0, q1⟩ := c
   by_cases hx : (l.getD j default).name = x
   ·have HR := Lib.hid (show pairOf l x = j by rw [hat, hpf, if_pos hx])
    rw [show decide ((l.getD j default).name = x) = true by simpa using hx] at c1
    have C1 := Lib.hid c1
    generalize l.getD j default = k at *
    clear hat hpf hx hon c1
    go_wp2_with (fail)
    refine C1.out.mono ?_
    rintro e w1 ⟨rfl, ho1⟩
    have HON1 := Lib.hid (HON.out.trans ho1 (fun _ h _ => h))
    clear ho1 C1
    go_wp2
    go_ret
    rw [HR.out]
    exact ⟨rfl, HON1.out⟩
   ·have HR := Lib.hid (show pairOf l x = pairFrom x (j + 1) (l.drop (j + 1)) by rw [hat, hpf, if_neg hx])
    rw [show decide ((l.getD j default).name = x) = false by simpa using hx] at c1
    have C1 := Lib.hid c1
    generalize l.getD j default = k at *
    clear hat hpf hx hon c1
    go_wp2_with (fail)
    refine C1.out.mono ?_
    rintro e w1 ⟨rfl, ho1⟩
    have HON1 := Lib.hid (HON.out.trans ho1 (fun _ h _ => h))
    clear ho1 C1
    go_wp2
    go_roundw
    case rel => exact ⟨j + 1, by go_num, by omega, HR.out, HON1.out⟩
    case measure => simp [intOf]; omega
  ·have HR := Lib.hid (show pairOf l x = -1 by rw [hat, List.drop_of_length_le (by omega)]; rfl)
   obtain rfl : j = l.length := by omega
   clear hat hj hlt hon
   go_wp2
   go_ret
   rw [HR.out]
   exact ⟨rfl, HON.out⟩
set_option maxHeartbeats 2000000 in
set_option maxRecDepth 100000 in
theorem placeFew (v : Value) (l : List PairV) (x : ByteArray) (b : Nat) (w : World) (hl : Pairs w v l) (hb : w.cell? ⟨b, 0, none⟩ = some v) (hn : l.length ≤ 9223372036854775806) :
  Calls Tryz.prog 125 #[.string x, .pointer (some ⟨b, 0, none⟩)] w fun e w' => e = .returned (.int .i64 (pairOf l x)) ∧ Only (fun _ => False) w w' := by
 have ho := (Only.refl (fun _ => False) w).alloc (.cells #[.string x] 9)
 have hb0 := heap_alloc_new w (.cells #[.string x] 9)
 have c1 := indexPr v l x w.heap.size _ (hl.only ho) (cell_blk hb0 0) hn
 have hb2 := ho.cell hb (fun h => h)
 obtain ⟨ao, cap, rfl, h1, h2, h3, h4⟩ := id hl
 have HO := Lib.hid ho
 have C1 := Lib.hid c1
 clear ho hb0 c1 hb hl h3 h4
 go_enter Tryz.func125, Tryz.ntmps125
 go_wp2_with (fail)
 refine C1.out.mono ?_
 rintro e w1 ⟨rfl, ho1⟩
 have HO1 := Lib.hid (HO.out.trans ho1 (fun _ h _ => h))
 clear ho1 C1
 go_wp2
 go_ret
 exact ⟨rfl, HO1.out⟩
def keyB (s : ByteArray) : Lit := .string s.data.toList
theorem keyB_inj {a b : ByteArray} (h : keyB a = keyB b) : a = b := by
 unfold keyB at h
 injection h with h
 apply toList_inj'
 rw [Lib.toList_data, Lib.toList_data, h]
def putN (l : List PairV) (D : DataW Unit) (ns : List Nat) : DataW Unit := ns.foldl (fun D i => D.put (keyB (l.getD i default).name) (.lit (.int .i64 i))) D
def treeD (l : List PairV) (ns : List Nat) : DataW Unit := putN l (.map []) ns
theorem treeD_snoc (l : List PairV) (ns : List Nat) (i : Nat) : treeD l (ns ++ [i]) = (treeD l ns).put (keyB (l.getD i default).name) (.lit (.int .i64 i)) := by simp [treeD, putN]
theorem putN_map (l : List PairV) : ∀ (ns : List Nat) (D : DataW Unit), IsMap D → IsMap (putN l D ns)
 | [], D, h => h
 | i :: ns, D, h => putN_map l ns _ (h.put _ _)
theorem treeD_map (l : List PairV) (ns : List Nat) : IsMap (treeD l ns) := putN_map l ns _ isMap_empty
def backN (n j : Nat) : List Nat := ((List.range n).drop j).reverse
theorem backN_end (n : Nat) : backN n n = [] := by simp [backN]
theorem backN_step {n j : Nat} (h : j < n) : backN n j = backN n (j + 1) ++ [j] := by
 unfold backN
 rw [List.drop_eq_getElem_cons (by simpa using h), List.reverse_cons]
 simp
theorem backN_len (n j : Nat) : (backN n j).length = n - j := by simp [backN]
theorem tree_look {l : List PairV} (x : ByteArray) : ∀ (k j : Nat), j + k = l.length →
  Maps.has (treeD l (backN l.length j)) (keyB x) = !decide (pairFrom x j (l.drop j) < 0) ∧ (¬ pairFrom x j (l.drop j) < 0 → (treeD l (backN l.length j)).atKey (keyB x) (.lit (.int .i64 0)) = .lit (.int .i64 (pairFrom x j (l.drop j))))
 | 0, j, h => by
  obtain rfl : j = l.length := by omega
  rw [backN_end, List.drop_length]
  exact ⟨rfl, fun h => absurd (show (-1 : Int) < 0 by decide) h⟩
 | k + 1, j, h => by
  have hj : j < l.length := by omega
  have ih := tree_look (l := l) x k (j + 1) (by omega)
  rw [backN_step hj, treeD_snoc, pairFrom_at hj]
  by_cases hx : (l.getD j default).name = x
  ·rw [if_pos hx, hx, has_put_same (k := keyB x) (treeD_map l _) (by unfold keyB; trivial), atKey_put_same (k := keyB x) (treeD_map l _) (by unfold keyB; trivial)]
   exact ⟨by simp, fun _ => rfl⟩
  ·have hk : keyB x ≠ keyB (l.getD j default).name := fun e => hx (keyB_inj e).symm
   rw [if_neg hx, has_put_other hk, atKey_put_other hk]
   exact ih
theorem tree_has (l : List PairV) (x : ByteArray) : Maps.has (treeD l (backN l.length 0)) (keyB x) = !decide (pairOf l x < 0) := (tree_look (l := l) x l.length 0 (by omega)).1
theorem tree_at {l : List PairV} {x : ByteArray} (h : ¬ pairOf l x < 0) : (treeD l (backN l.length 0)).atKey (keyB x) (.lit (.int .i64 0)) = .lit (.int .i64 (pairOf l x)) := (tree_look (l := l) x l.length 0 (by omega)).2 h
theorem zero_int8 (w : World) : (zeroValue 3).run Tryz.prog w = .ok (.int .i64 0) w := by kernel_rfl
abbrev TreeMap (w : World) (l : List PairV) (b n : Nat) (ns : List Nat) : Prop := w.ownsMap Tryz.prog 9 (plainElem (H := Unit) Tryz.prog 3) b n (treeD l ns)
theorem only_map {w w' : World} {l : List PairV} {b n : Nat} {ns : List Nat} (h : TreeMap w l b n ns) (ho : Only (fun _ => False) w w') : TreeMap w' l b n ns := by
 obtain ⟨es, clock, h1, h2⟩ := h
 exact ⟨es, clock, ho.heap h1 (fun h => h), h2⟩
theorem lit_eq {c d : Int} (h : (DataW.lit (.int .i64 c) : DataW Unit) = .lit (.int .i64 d)) : c = d := by
 injection h with h
 injection h
set_option maxHeartbeats 2000000 in
set_option maxRecDepth 100000 in
theorem placeMap (l : List PairV) (x : ByteArray) (b mb : Nat) (w : World) (hb : w.cell? ⟨b, 0, none⟩ = some (.map (some mb))) (hm : TreeMap w l mb l.length (backN l.length 0)) (hx : x.size ≤ maxLen) :
  Calls Tryz.prog 129 #[.string x, .pointer (some ⟨b, 0, none⟩)] w fun e w' => e = .returned (.int .i64 (pairOf l x)) ∧ Only (fun _ => False) w w' := by
 have HM := Lib.hid hm
 have HX := Lib.hid hx
 have hh := tree_has l x
 have ha := tree_at (l := l) (x := x)
 clear hm hx
 by_cases hneg : pairOf l x < 0
 ·rw [show decide (pairOf l x < 0) = true by simpa using hneg, Bool.not_true] at hh
  have HH := Lib.hid hh
  have HP : Hid (pairOf l x = -1) := by
   refine Lib.hid ?_
   rcases pairOf_cases l x with h | ⟨j, _, h⟩
   ·exact h
   ·omega
  clear hh ha hneg
  go_enter Tryz.func129, Tryz.ntmps129
  go_wp2_with (at_lookup; go_loud (refine wpList_lookup_own_ok_int _ rfl _ _ 106 rfl 9 3 .i64 (Maps.string_keyed Tryz.underlying9) Tryz.underlying106 Tryz.underlying3 (zero_int8 _) mb l.length (treeD l (backN l.length 0)) rfl (by exact HM.out) _ _ rfl (Go.WideMaps.keyOf_string_mk Tryz.underlying9 HX.out) ?_); intro c hat hwc; rw [show Maps.has (treeD l (backN l.length 0)) (.string x.data.toList) = _ from HH.out]; clear hat hwc)
  go_ret
  rw [HP.out]
  exact ⟨rfl, Only.refl _ _⟩
 ·rw [show decide (pairOf l x < 0) = false by simpa using hneg, Bool.not_false] at hh
  have HH := Lib.hid hh
  have HA := Lib.hid (ha hneg)
  clear hh ha hneg
  go_enter Tryz.func129, Tryz.ntmps129
  go_wp2_with (at_lookup; go_loud (refine wpList_lookup_own_ok_int _ rfl _ _ 106 rfl 9 3 .i64 (Maps.string_keyed Tryz.underlying9) Tryz.underlying106 Tryz.underlying3 (zero_int8 _) mb l.length (treeD l (backN l.length 0)) rfl (by exact HM.out) _ _ rfl (Go.WideMaps.keyOf_string_mk Tryz.underlying9 HX.out) ?_); intro c hat hwc; rw [show Maps.has (treeD l (backN l.length 0)) (.string x.data.toList) = _ from HH.out]; have hc := lit_eq (hat.symm.trans HA.out); have HC := Lib.hid hc; clear hat hwc hc)
  go_ret
  rw [HC.out]
  exact ⟨rfl, Only.refl _ _⟩
end Go.Proofs.YtgdgffnaknkbcaaGreatDoor
