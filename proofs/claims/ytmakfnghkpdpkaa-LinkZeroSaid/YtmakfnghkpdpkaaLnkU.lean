/- Plain words: what a class that is right gives; each name once; all chains end. No program. -/
import Derived.Test.YtmakfnghkpdpkaaLnkT
import Derived.Test.YtmakfnghkpdpkaaPolE
namespace Go.Proofs.Ytmakfnghkpdpkaa
open Go.RowKit
set_option linter.unusedVariables false
set_option linter.unusedSimpArgs false

/-! The texts of a class. -/
theorem text256 {x : ByteArray} (h : ¬ TextBad x) : x.size ≤ 256 := by
  unfold TextBad at h
  have h' : ∃ ys k, Enc (nums x) ys k ∧ ¬ (k ≠ 0 ∨ 256 < ys.length) := Classical.byContradiction (fun hn => h (fun ys k he => Classical.byContradiction (fun hb => hn ⟨ys, k, he, hb⟩)))
  obtain ⟨ys, k, he, hb⟩ := h'
  have hk : k = 0 := Classical.byContradiction (fun hk => hb (.inl hk))
  have hl : ys.length ≤ 256 := Classical.byContradiction (fun hk => hb (.inr (by omega)))
  subst hk
  rcases he with ⟨cs, ht, rfl, _⟩ | ⟨_, _, h0⟩
  · have h1 := (M8s_len ht.1).1
    have h2 : (nums x).length = (U8s cs).length := by rw [ht.2]
    rw [nums_len] at h2
    omega
  · cases h0
theorem pool256 {cs : List ConstV} (h : checkZ cs = 0) (i : Int) : (textZ cs i).1.size ≤ 256 := by
  unfold textZ
  by_cases hi : isZ cs i 1 = true
  · rw [if_pos hi]
    obtain ⟨j, rfl, h1, h2, h3⟩ := isZ_lt hi
    have := (checkZ_zero h).2.2.2 j h1 h2
    show (cs.getD j default).text.size ≤ 256
    unfold oneZ at this
    by_cases hb : bareZ (cs.getD j default) = false
    · rw [if_pos hb] at this; exact absurd this (by decide)
    · rw [if_neg hb, if_pos h3] at this
      by_cases ht : TextBad (cs.getD j default).text
      · rw [if_pos ht] at this; exact absurd this (by decide)
      · exact text256 ht
  · rw [if_neg hi]; decide
theorem class256 {cs : List ConstV} (h : checkZ cs = 0) (i : Int) : (classZ cs i).1.size ≤ 256 := by
  unfold classZ
  split
  · exact pool256 h _
  · decide
theorem fine_load {c : ClassV} (h : clsZ c = 0) (i : Nat) : FineK (loadZ c i) := by
  obtain ⟨h1, h2, h3⟩ := clsZ_zero h
  have h4 : ¬ 64 < c.fields.length := fun x => h2 (.inl x)
  have h5 : ¬ 64 < c.methods.length := fun x => h2 (.inr (.inl x))
  refine ⟨?_, ?_, ?_, ?_, class256 h1 _, class256 h1 _, ?_, ?_⟩
  · show (c.fields.map _).length ≤ 64
    rw [List.length_map]; omega
  · show (c.methods.map _).length ≤ 64
    rw [List.length_map]; omega
  · intro m hm
    obtain ⟨f, hf, rfl⟩ := List.mem_map.1 hm
    exact (h3.2.2.1 f hf).1
  · intro m hm
    obtain ⟨f, hf, rfl⟩ := List.mem_map.1 hm
    exact (h3.2.2.2 f hf).1.1
  · intro m hm
    obtain ⟨f, hf, rfl⟩ := List.mem_map.1 hm
    exact ⟨pool256 h1 _, pool256 h1 _⟩
  · intro m hm
    obtain ⟨f, hf, rfl⟩ := List.mem_map.1 hm
    exact ⟨pool256 h1 _, pool256 h1 _⟩
theorem fine_begin {k : KindV} (hn : k.name.size ≤ 256) (hs : k.super.size ≤ 256) (hf : k.fields = []) (hl : k.meths.length ≤ 64) (hm : ∀ m ∈ k.meths, (m.flags = 0 ∨ m.flags = 8) ∧ m.name.size ≤ 256 ∧ m.desc.size ≤ 256) : FineK k :=
  ⟨by rw [hf]; decide, hl, by rw [hf]; exact (fun m h => by cases h), fun m h => (hm m h).1, hn, hs, by rw [hf]; exact (fun m h => by cases h), fun m h => (hm m h).2⟩
theorem fine_err {n : ByteArray} (h : n.size ≤ 256) : FineK (errK n) := fine_begin h (show thrB.size ≤ 256 by decide) rfl (show [beginM].length ≤ 64 by decide) (fun m hm => by
  simp only [errK, List.mem_cons, List.mem_nil_iff, or_false] at hm
  subst hm
  exact ⟨.inl rfl, by decide, by decide⟩)
theorem fine_built : ∀ k ∈ builtK, FineK k := by
  intro k hk
  simp only [builtK, List.mem_cons, List.mem_nil_iff, or_false] at hk
  rcases hk with rfl | rfl | rfl | rfl | rfl | rfl | rfl | rfl | rfl | rfl | rfl | rfl | rfl
  · exact fine_begin (by decide) (by decide) rfl (by decide) (fun m hm => by
      simp only [List.mem_cons, List.mem_nil_iff, or_false] at hm
      rcases hm with rfl | rfl | rfl | rfl <;> exact ⟨.inl rfl, by decide, by decide⟩)
  · exact fine_begin (by decide) (by decide) rfl (by decide) (fun m hm => by
      simp only [List.mem_cons, List.mem_nil_iff, or_false] at hm
      subst hm; exact ⟨.inl rfl, by decide, by decide⟩)
  · exact fine_begin (by decide) (by decide) rfl (by decide) (fun m hm => by
      simp only [List.mem_cons, List.mem_nil_iff, or_false] at hm
      rcases hm with rfl | rfl | rfl | rfl <;> exact ⟨.inl rfl, by decide, by decide⟩)
  · exact fine_begin (by decide) (by decide) rfl (by decide) (fun m hm => by
      simp only [List.mem_cons, List.mem_nil_iff, or_false] at hm
      rcases hm with rfl | rfl | rfl <;> exact ⟨.inr rfl, by decide, by decide⟩)
  all_goals exact fine_err (by decide)
theorem listK_mem : ∀ {cs : List ClassV} {i : Nat} {k : KindV}, k ∈ listK cs i → ∃ c ∈ cs, ∃ j, k = loadZ c j
  | c :: r, i, k, h => by
    rcases List.mem_cons.1 h with rfl | h
    · exact ⟨c, by simp, i, rfl⟩
    · obtain ⟨d, hd, j, e⟩ := listK_mem h
      exact ⟨d, by simp [hd], j, e⟩
theorem fine_all {cs : List ClassV} (h : ∀ c ∈ cs, clsZ c = 0) : ∀ k ∈ kindsZ cs, FineK k := by
  intro k hk
  rcases List.mem_append.1 hk with hk | hk
  · exact fine_built k hk
  · obtain ⟨c, hc, j, rfl⟩ := listK_mem hk
    exact fine_load (h c hc) j
theorem fine_small {cs : List ClassV} (h : ∀ c ∈ cs, clsZ c = 0) (hl : cs.length ≤ 16) : SmallK (kindsZ cs) := ⟨by rw [kindsZ_len]; omega, fun k hk => ⟨(fine_all h k hk).fields, (fine_all h k hk).meths⟩⟩
theorem fine_descs {cs : List ClassV} (h : ∀ c ∈ cs, clsZ c = 0) : DescsAll (kindsZ cs) := fun k hk m hm => by have := ((fine_all h k hk).fnm m hm).2; omega

/-! Names, supers of those that are built in. -/
theorem pairFrom_app (x : ByteArray) : ∀ (a b : List PairV) (i : Nat), pairFrom x i (a ++ b) = if pairFrom x i a < 0 then pairFrom x (i + a.length) b else pairFrom x i a
  | [], b, i => by show _ = if (-1 : Int) < 0 then _ else _; rw [if_pos (by decide)]; rfl
  | p :: a, b, i => by
    rw [List.cons_append, pairFrom, pairFrom]
    by_cases h : p.name = x
    · rw [if_pos h, if_pos h, if_neg (by omega)]
    · rw [if_neg h, if_neg h, pairFrom_app x a b (i + 1), List.length_cons, show i + 1 + a.length = i + (a.length + 1) by omega]
theorem findZ_app (a b : List KindV) (x : ByteArray) : findZ (a ++ b) x = if findZ a x < 0 then pairFrom x a.length (treeZ b) else findZ a x := by
  unfold findZ pairOf
  rw [show treeZ (a ++ b) = treeZ a ++ treeZ b by simp [treeZ], pairFrom_app, treeZ_len, Nat.zero_add]
theorem builtK_find : ∀ j, j < 13 → findZ builtK (builtK.getD j default).name = (j : Int) := by decide
theorem builtK_none : findZ builtK ⟨#[]⟩ = -1 := by decide
theorem find_built {cs : List ClassV} {j : Nat} (h : j < 13) : findZ (kindsZ cs) ((kindsZ cs).getD j default).name = (j : Int) := by
  rw [kindsZ_built h, kindsZ, findZ_app, builtK_find j h, if_neg (by omega)]
theorem find_obj (cs : List ClassV) : findZ (kindsZ cs) objB = 0 := find_built (cs := cs) (j := 0) (by decide)
theorem find_thr (cs : List ClassV) : findZ (kindsZ cs) thrB = 1 := find_built (cs := cs) (j := 1) (by decide)
theorem builtK_super : ∀ j, 1 ≤ j → j < 13 → (builtK.getD j default).super = objB ∨ (builtK.getD j default).super = thrB := fun j h1 h => (show ∀ j, j < 13 → 1 ≤ j → (builtK.getD j default).super = objB ∨ (builtK.getD j default).super = thrB by decide) j h h1
theorem super_zero (ks : List KindV) : superZ ks 0 = -1 := if_pos (by decide)
theorem super_one (cs : List ClassV) : superZ (kindsZ cs) 1 = 0 := by
  have := kindsZ_len cs
  unfold superZ
  rw [if_neg (by decide), if_neg (by omega)]
  exact find_obj cs
theorem super_built {cs : List ClassV} {j : Nat} (h1 : 1 ≤ j) (h : j < 13) : superZ (kindsZ cs) (j : Int) = 0 ∨ superZ (kindsZ cs) (j : Int) = 1 := by
  have := kindsZ_len cs
  unfold superZ
  rw [if_neg (by omega), if_neg (by omega), Int.toNat_natCast, kindsZ_built h]
  rcases builtK_super j h1 h with e | e
  · rw [e]; exact .inl (find_obj cs)
  · rw [e]; exact .inr (find_thr cs)
theorem super_list {ks : List KindV} {j : Nat} (h1 : 1 ≤ j) (h : j < ks.length) : superZ ks (j : Int) = findZ ks (ks.getD j default).super := by
  unfold superZ
  rw [if_neg (by omega), if_neg (by omega), Int.toNat_natCast]

/-! All chains end. -/
theorem Ends.neg {ks : List KindV} {f : Nat} {x : Int} (h : x < 0) : Ends ks f x := by cases f with | zero => exact h | succ f => exact .inl h
theorem Ends.plus {ks : List KindV} {f : Nat} {x : Int} (h : Ends ks f x) : ∀ k, Ends ks (f + k) x
  | 0 => h
  | k + 1 => (h.plus k).more
theorem tops_ends {ks : List KindV} : ∀ {f : Nat} {x : Int}, topsF ks f x = true → Ends ks f x
  | 0, x, h => by cases h
  | f + 1, x, h => by
    unfold topsF at h
    by_cases h0 : x = 0
    · subst h0
      exact .inr (by rw [super_zero]; exact Ends.neg (by decide))
    · rw [if_neg h0] at h
      by_cases h1 : superZ ks x < 0
      · rw [if_pos h1] at h; cases h
      · rw [if_neg h1] at h
        by_cases h2 : (ks.getD (superZ ks x).toNat default).name = sysB
        · rw [if_pos h2] at h; cases h
        · rw [if_neg h2] at h
          exact .inr (tops_ends h)
theorem ends_built {cs : List ClassV} {j : Nat} (h : j < 13) : Ends (kindsZ cs) 4 (j : Int) := by
  have e0 : Ends (kindsZ cs) 2 0 := .inr (by rw [super_zero]; exact Ends.neg (by decide))
  have e1 : Ends (kindsZ cs) 3 1 := .inr (by rw [super_one]; exact e0)
  by_cases h0 : j = 0
  · subst h0; exact e0.plus 2
  · refine .inr ?_
    rcases super_built (cs := cs) (show 1 ≤ j by omega) h with e | e
    · rw [e]; exact e0.plus 1
    · rw [e]; exact e1
theorem ends_all {cs : List ClassV} (h : ∀ j, 13 ≤ j → j < (kindsZ cs).length → topsZ (kindsZ cs) (j : Int) = true) : EndsAll (kindsZ cs) := fun x hx => by
  have hl := kindsZ_len cs
  by_cases h0 : x < 0
  · exact Ends.neg h0
  · obtain ⟨j, rfl⟩ := Int.eq_ofNat_of_zero_le (show 0 ≤ x by omega)
    by_cases h13 : j < 13
    · have := (ends_built (cs := cs) h13).plus ((kindsZ cs).length + 1 - 4)
      rwa [show 4 + ((kindsZ cs).length + 1 - 4) = (kindsZ cs).length + 1 by omega] at this
    · exact tops_ends (h j (by omega) (by omega))
theorem once_all {cs : List ClassV} (h : ∀ j, 13 ≤ j → j < (kindsZ cs).length → findZ (kindsZ cs) ((kindsZ cs).getD j default).name = (j : Int)) : NamesOnce (kindsZ cs) := fun j hj => by
  by_cases h13 : j < 13
  · exact find_built h13
  · exact h j (by omega) hj
/-- Where a name is found there is a class of that name. -/
theorem pairFrom_hit {x : ByteArray} : ∀ {l : List PairV} {i n : Nat}, pairFrom x i l = (n : Int) → i ≤ n ∧ n < i + l.length ∧ (l.getD (n - i) default).name = x
  | [], i, n, h => by simp [pairFrom] at h <;> omega
  | p :: r, i, n, h => by
    rw [pairFrom] at h
    by_cases hp : p.name = x
    · rw [if_pos hp] at h
      obtain rfl : i = n := by omega
      exact ⟨Nat.le_refl _, by simp, by simpa using hp⟩
    · rw [if_neg hp] at h
      obtain ⟨h1, h2, h3⟩ := pairFrom_hit h
      refine ⟨by omega, by rw [List.length_cons]; omega, ?_⟩
      rw [show n - i = (n - (i + 1)) + 1 by omega]
      exact h3
theorem find_hit {ks : List KindV} {x : ByteArray} {n : Nat} (h : findZ ks x = (n : Int)) : n < ks.length ∧ (ks.getD n default).name = x := by
  obtain ⟨_, h2, h3⟩ := pairFrom_hit (show pairFrom x 0 (treeZ ks) = _ from h)
  rw [treeZ_len, Nat.zero_add] at h2
  rw [Nat.sub_zero, treeZ_at h2] at h3
  exact ⟨h2, h3⟩
end Go.Proofs.Ytmakfnghkpdpkaa
