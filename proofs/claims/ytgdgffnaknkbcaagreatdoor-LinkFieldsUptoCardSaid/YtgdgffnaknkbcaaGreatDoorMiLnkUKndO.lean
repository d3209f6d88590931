import Derived.Test.YtgdgffnaknkbcaaGreatDoorMiPolDPolE
import Derived.RangeFuncNested
import Derived.RangeFuncBound
import Derived.RangeFuncCalls
import Derived.RangeFuncLeaves
import Derived.RangeFuncBox
import Derived.Shelf.Abstract
import Derived.WalkKit
import Derived.OwnWalkIn
import Derived.TacticsInMore
import Derived.LoopNIn
import Derived.LoopIn
import Derived.Maps.OwnSet
import Derived.Maps.OwnIn
import Derived.Maps.Views
import Derived.StringKeys
import Derived.Test.YtgdgffnaknkbcaaGreatDoorMiKndCLnkB
namespace Go.Proofs.YtgdgffnaknkbcaaGreatDoor
open Go.RowKit
set_option linter.unusedVariables false
set_option linter.unusedSimpArgs false
theorem text256 {x : ByteArray} (h : ¬ TextBad x) : x.size ≤ 256 := by
 unfold TextBad at h
 have h' : ∃ ys k, Enc (nums x) ys k ∧ ¬ (k ≠ 0 ∨ 256 < ys.length) := Classical.byContradiction (fun hn => h (fun ys k he => Classical.byContradiction (fun hb => hn ⟨ys, k, he, hb⟩)))
 obtain ⟨ys, k, he, hb⟩ := h'
 have hk : k = 0 := Classical.byContradiction (fun hk => hb (.inl hk))
 have hl : ys.length ≤ 256 := Classical.byContradiction (fun hk => hb (.inr (by omega)))
 subst hk
 rcases he with ⟨cs, ht, rfl, _⟩ | ⟨_, _, h0⟩
 ·have h1 := (M8s_len ht.1).1
  have h2 : (nums x).length = (U8s cs).length := by rw [ht.2]
  rw [nums_len] at h2
  omega
 ·cases h0
theorem pool256 {cs : List ConstV} (h : checkZ cs = 0) (i : Int) : (textZ cs i).1.size ≤ 256 := by
 unfold textZ
 by_cases hi : isZ cs i 1 = true
 ·rw [if_pos hi]
  obtain ⟨j, rfl, h1, h2, h3⟩ := isZ_lt hi
  have := (checkZ_zero h).2.2.2 j h1 h2
  show (cs.getD j default).text.size ≤ 256
  unfold oneZ at this
  by_cases hb : bareZ (cs.getD j default) = false
  ·rw [if_pos hb] at this; exact absurd this (by decide)
  ·rw [if_neg hb, if_pos h3] at this
   by_cases ht : TextBad (cs.getD j default).text
   ·rw [if_pos ht] at this; exact absurd this (by decide)
   ·exact text256 ht
 ·rw [if_neg hi]; decide
theorem class256 {cs : List ConstV} (h : checkZ cs = 0) (i : Int) : (classZ cs i).1.size ≤ 256 := by
 unfold classZ
 split
 ·exact pool256 h _
 ·decide
theorem fine_load {c : ClassV} (h : clsZ c = 0) (i : Nat) : FineK (loadZ c i) := by
 obtain ⟨h1, h2, h3⟩ := clsZ_zero h
 have h4 : ¬ 64 < c.fields.length := fun x => h2 (.inl x)
 have h5 : ¬ 64 < c.methods.length := fun x => h2 (.inr (.inl x))
 refine ⟨?_, ?_, ?_, ?_, class256 h1 _, class256 h1 _, ?_, ?_⟩
 ·show (c.fields.map _).length ≤ 64
  rw [List.length_map]; omega
 ·show (c.methods.map _).length ≤ 64
  rw [List.length_map]; omega
 ·intro m hm
  obtain ⟨f, hf, rfl⟩ := List.mem_map.1 hm
  exact (h3.2.2.1 f hf).1
 ·intro m hm
  obtain ⟨f, hf, rfl⟩ := List.mem_map.1 hm
  exact (h3.2.2.2 f hf).1.1
 ·intro m hm
  obtain ⟨f, hf, rfl⟩ := List.mem_map.1 hm
  exact ⟨pool256 h1 _, pool256 h1 _⟩
 ·intro m hm
  obtain ⟨f, hf, rfl⟩ := List.mem_map.1 hm
  exact ⟨pool256 h1 _, pool256 h1 _⟩
theorem fine_begin {k : KindV} (hn : k.name.size ≤ 256) (hs : k.super.size ≤ 256) (hf : k.fields = []) (hl : k.meths.length ≤ 64) (hm : ∀ m ∈ k.meths, (m.flags = 0 ∨ m.flags = 8) ∧ m.name.size ≤ 256 ∧ m.desc.size ≤ 256) : FineK k :=
 ⟨by rw [hf]; decide, hl, by rw [hf]; exact (fun m h => by cases h), fun m h => (hm m h).1, hn, hs, by rw [hf]; exact (fun m h => by cases h), fun m h => (hm m h).2⟩
theorem fine_err {n : ByteArray} (h : n.size ≤ 256) : FineK (errK n) := fine_begin h (show thrB.size ≤ 256 by decide) rfl (show [beginM].length ≤ 64 by decide) (fun m hm => by
 simp only [errK, List.mem_cons, List.mem_nil_iff, or_false] at hm
 subst hm
 exact ⟨.inl rfl, by decide, by decide⟩)
theorem fine_built : ∀ k ∈ builtK, FineK k := by
 intro k hk
 simp only [builtK, List.mem_cons, List.mem_nil_iff, or_false] at hk
 rcases hk with rfl | rfl | rfl | rfl | rfl | rfl | rfl | rfl | rfl | rfl | rfl | rfl | rfl
 ·exact fine_begin (by decide) (by decide) rfl (by decide) (fun m hm => by
   simp only [List.mem_cons, List.mem_nil_iff, or_false] at hm
   rcases hm with rfl | rfl | rfl | rfl <;> exact ⟨.inl rfl, by decide, by decide⟩)
 ·exact fine_begin (by decide) (by decide) rfl (by decide) (fun m hm => by
   simp only [List.mem_cons, List.mem_nil_iff, or_false] at hm
   subst hm; exact ⟨.inl rfl, by decide, by decide⟩)
 ·exact fine_begin (by decide) (by decide) rfl (by decide) (fun m hm => by
   simp only [List.mem_cons, List.mem_nil_iff, or_false] at hm
   rcases hm with rfl | rfl | rfl | rfl <;> exact ⟨.inl rfl, by decide, by decide⟩)
 ·exact fine_begin (by decide) (by decide) rfl (by decide) (fun m hm => by
   simp only [List.mem_cons, List.mem_nil_iff, or_false] at hm
   rcases hm with rfl | rfl | rfl <;> exact ⟨.inr rfl, by decide, by decide⟩)
 all_goals exact fine_err (by decide)
theorem listK_mem : ∀ {cs : List ClassV} {i : Nat} {k : KindV}, k ∈ listK cs i → ∃ c ∈ cs, ∃ j, k = loadZ c j
 | c :: r, i, k, h => by
  rcases List.mem_cons.1 h with rfl | h
  ·exact ⟨c, by simp, i, rfl⟩
  ·obtain ⟨d, hd, j, e⟩ := listK_mem h
   exact ⟨d, by simp [hd], j, e⟩
theorem fine_all {cs : List ClassV} (h : ∀ c ∈ cs, clsZ c = 0) : ∀ k ∈ kindsZ cs, FineK k := by
 intro k hk
 rcases List.mem_append.1 hk with hk | hk
 ·exact fine_built k hk
 ·obtain ⟨c, hc, j, rfl⟩ := listK_mem hk
  exact fine_load (h c hc) j
theorem fine_small {cs : List ClassV} (h : ∀ c ∈ cs, clsZ c = 0) (hl : cs.length ≤ 16) : SmallK (kindsZ cs) := ⟨by rw [kindsZ_len]; omega, fun k hk => ⟨(fine_all h k hk).fields, (fine_all h k hk).meths⟩⟩
theorem fine_descs {cs : List ClassV} (h : ∀ c ∈ cs, clsZ c = 0) : DescsAll (kindsZ cs) := fun k hk m hm => by have := ((fine_all h k hk).fnm m hm).2; omega
theorem pairFrom_app (x : ByteArray) : ∀ (a b : List PairV) (i : Nat), pairFrom x i (a ++ b) = if pairFrom x i a < 0 then pairFrom x (i + a.length) b else pairFrom x i a
 | [], b, i => by show _ = if (-1 : Int) < 0 then _ else _; rw [if_pos (by decide)]; rfl
 | p :: a, b, i => by
  rw [List.cons_append, pairFrom, pairFrom]
  by_cases h : p.name = x
  ·rw [if_pos h, if_pos h, if_neg (by omega)]
  ·rw [if_neg h, if_neg h, pairFrom_app x a b (i + 1), List.length_cons, show i + 1 + a.length = i + (a.length + 1) by omega]
theorem findZ_app (a b : List KindV) (x : ByteArray) : findZ (a ++ b) x = if findZ a x < 0 then pairFrom x a.length (treeZ b) else findZ a x := by
 unfold findZ pairOf
 rw [show treeZ (a ++ b) = treeZ a ++ treeZ b by simp [treeZ], pairFrom_app, treeZ_len, Nat.zero_add]
theorem builtK_find : ∀ j, j < 13 → findZ builtK (builtK.getD j default).name = (j : Int) := by decide
theorem find_built {cs : List ClassV} {j : Nat} (h : j < 13) : findZ (kindsZ cs) ((kindsZ cs).getD j default).name = (j : Int) := by
 rw [kindsZ_built h, kindsZ, findZ_app, builtK_find j h, if_neg (by omega)]
theorem find_obj (cs : List ClassV) : findZ (kindsZ cs) objB = 0 := find_built (cs := cs) (j := 0) (by decide)
theorem find_thr (cs : List ClassV) : findZ (kindsZ cs) thrB = 1 := find_built (cs := cs) (j := 1) (by decide)
theorem builtK_super : ∀ j, 1 ≤ j → j < 13 → (builtK.getD j default).super = objB ∨ (builtK.getD j default).super = thrB := fun j h1 h => (show ∀ j, j < 13 → 1 ≤ j → (builtK.getD j default).super = objB ∨ (builtK.getD j default).super = thrB by decide) j h h1
theorem super_zero (ks : List KindV) : superZ ks 0 = -1 := if_pos (by decide)
theorem super_one (cs : List ClassV) : superZ (kindsZ cs) 1 = 0 := by
 have := kindsZ_len cs
 unfold superZ
 rw [if_neg (by decide), if_neg (by omega)]
 exact find_obj cs
theorem super_built {cs : List ClassV} {j : Nat} (h1 : 1 ≤ j) (h : j < 13) : superZ (kindsZ cs) (j : Int) = 0 ∨ superZ (kindsZ cs) (j : Int) = 1 := by
 have := kindsZ_len cs
 unfold superZ
 rw [if_neg (by omega), if_neg (by omega), Int.toNat_natCast, kindsZ_built h]
 rcases builtK_super j h1 h with e | e
 ·rw [e]; exact .inl (find_obj cs)
 ·rw [e]; exact .inr (find_thr cs)
theorem super_list {ks : List KindV} {j : Nat} (h1 : 1 ≤ j) (h : j < ks.length) : superZ ks (j : Int) = findZ ks (ks.getD j default).super := by
 unfold superZ
 rw [if_neg (by omega), if_neg (by omega), Int.toNat_natCast]
theorem Ends.neg {ks : List KindV} {f : Nat} {x : Int} (h : x < 0) : Ends ks f x := by cases f with | zero => exact h | succ f => exact .inl h
theorem Ends.plus {ks : List KindV} {f : Nat} {x : Int} (h : Ends ks f x) : ∀ k, Ends ks (f + k) x
 | 0 => h
 | k + 1 => (h.plus k).more
theorem tops_ends {ks : List KindV} : ∀ {f : Nat} {x : Int}, topsF ks f x = true → Ends ks f x
 | 0, x, h => by cases h
 | f + 1, x, h => by
  unfold topsF at h
  by_cases h0 : x = 0
  ·subst h0
   exact .inr (by rw [super_zero]; exact Ends.neg (by decide))
  ·rw [if_neg h0] at h
   by_cases h1 : superZ ks x < 0
   ·rw [if_pos h1] at h; cases h
   ·rw [if_neg h1] at h
    by_cases h2 : (ks.getD (superZ ks x).toNat default).name = sysB
    ·rw [if_pos h2] at h; cases h
    ·rw [if_neg h2] at h
     exact .inr (tops_ends h)
theorem ends_built {cs : List ClassV} {j : Nat} (h : j < 13) : Ends (kindsZ cs) 4 (j : Int) := by
 have e0 : Ends (kindsZ cs) 2 0 := .inr (by rw [super_zero]; exact Ends.neg (by decide))
 have e1 : Ends (kindsZ cs) 3 1 := .inr (by rw [super_one]; exact e0)
 by_cases h0 : j = 0
 ·subst h0; exact e0.plus 2
 ·refine .inr ?_
  rcases super_built (cs := cs) (show 1 ≤ j by omega) h with e | e
  ·rw [e]; exact e0.plus 1
  ·rw [e]; exact e1
theorem ends_all {cs : List ClassV} (h : ∀ j, 13 ≤ j → j < (kindsZ cs).length → topsZ (kindsZ cs) (j : Int) = true) : EndsAll (kindsZ cs) := fun x hx => by
 have hl := kindsZ_len cs
 by_cases h0 : x < 0
 ·exact Ends.neg h0
 ·obtain ⟨j, rfl⟩ := Int.eq_ofNat_of_zero_le (show 0 ≤ x by omega)
  by_cases h13 : j < 13
  ·have := (ends_built (cs := cs) h13).plus ((kindsZ cs).length + 1 - 4)
   rwa [show 4 + ((kindsZ cs).length + 1 - 4) = (kindsZ cs).length + 1 by omega] at this
  ·exact tops_ends (h j (by omega) (by omega))
theorem once_all {cs : List ClassV} (h : ∀ j, 13 ≤ j → j < (kindsZ cs).length → findZ (kindsZ cs) ((kindsZ cs).getD j default).name = (j : Int)) : NamesOnce (kindsZ cs) := fun j hj => by
 by_cases h13 : j < 13
 ·exact find_built h13
 ·exact h j (by omega) hj
theorem pairFrom_hit {x : ByteArray} : ∀ {l : List PairV} {i n : Nat}, pairFrom x i l = (n : Int) → i ≤ n ∧ n < i + l.length ∧ (l.getD (n - i) default).name = x
 | [], i, n, h => by simp [pairFrom] at h <;> omega
 | p :: r, i, n, h => by
  rw [pairFrom] at h
  by_cases hp : p.name = x
  ·rw [if_pos hp] at h
   obtain rfl : i = n := by omega
   exact ⟨Nat.le_refl _, by simp, by simpa using hp⟩
  ·rw [if_neg hp] at h
   obtain ⟨h1, h2, h3⟩ := pairFrom_hit h
   refine ⟨by omega, by rw [List.length_cons]; omega, ?_⟩
   rw [show n - i = (n - (i + 1)) + 1 by omega]
   exact h3
theorem find_hit {ks : List KindV} {x : ByteArray} {n : Nat} (h : findZ ks x = (n : Int)) : n < ks.length ∧ (ks.getD n default).name = x := by
 obtain ⟨_, h2, h3⟩ := pairFrom_hit (show pairFrom x 0 (treeZ ks) = _ from h)
 rw [treeZ_len, Nat.zero_add] at h2
 rw [Nat.sub_zero, treeZ_at h2] at h3
 exact ⟨h2, h3⟩
end Go.Proofs.YtgdgffnaknkbcaaGreatDoor
namespace Go.Proofs.YtgdgffnaknkbcaaGreatDoor
open Go.RowKit Go.Shelf Go.Maps
set_option linter.unusedVariables false
set_option linter.unusedSimpArgs false
attribute [local go_sem] Oper.semAt_some
theorem beq_bytes (a b : ByteArray) : (a.toList == b.toList) = decide (a = b) := by
 by_cases h : a = b
 ·subst h; simp
 ·rw [(toList_beq h).1]
  simp [h]
set_option maxHeartbeats 2000000 in
set_option maxRecDepth 100000 in
theorem progNamed (p : PairV) (x : ByteArray) (b : Nat) (w : World) (hx : w.cell? ⟨b, 0, none⟩ = some (.string x)) : Calls Tryz.prog 127 #[.agg #[.string p.name, .string p.super], .pointer (some ⟨b, 0, none⟩)] w fun e w' => e = .returned (.bool (decide (p.name = x))) ∧ Only (fun _ => False) w w' := by
 have ho := (Only.refl (fun _ => False) w).alloc (.cells #[.string p.name, .string p.super] 95)
 have hx2 := ho.cell hx (fun h => h)
 have HO := Lib.hid ho
 rw [← beq_bytes]
 clear ho hx
 go_enter Tryz.func127, Tryz.ntmps127
 go_wp2
 go_ret
 exact ⟨rfl, HO.out⟩
set_option maxHeartbeats 4000000 in
set_option maxRecDepth 100000 in
theorem indexPr (v : Value) (l : List PairV) (x : ByteArray) (b : Nat) (w : World) (hl : Pairs w v l) (hx : w.cell? ⟨b, 0, none⟩ = some (.string x)) (hn : l.length ≤ 9223372036854775806) :
  Calls Tryz.prog 126 #[v, .func (.func 127) #[] #[.pointer (some ⟨b, 0, none⟩)]] w fun e w' => e = .returned (.int .i64 (pairOf l x)) ∧ Only (fun _ => False) w w' := by
 obtain ⟨ao, cap, rfl, h1, h2, h3, h4⟩ := id hl
 have HL := Lib.hid hl
 have HX := Lib.hid hx
 have hen : ∀ args w, (callFunc 127 args).run Tryz.prog w = .ok (.enter 127 args) w := enters_of Tryz.func127 (by kernel_rfl) rfl
 clear hl h3 h4 hx
 go_enter Tryz.func126, Tryz.ntmps126
 go_wp2
 go_loopw [8] (fun i wr => ∃ j : Nat, i = .int .i64 j ∧ j ≤ l.length ∧ pairOf l x = pairFrom x j (l.drop j) ∧ Only (fun _ => False) w wr) (fun i _ => l.length - (intOf i).toNat)
 case atStart => exact ⟨0, rfl, Nat.zero_le _, rfl, Only.refl _ _⟩
 case round =>
  obtain ⟨j, rfl, hj, hat, hon⟩ := hrel
  have HON := Lib.hid hon
  by_cases hlt : j < l.length
  ·obtain ⟨bb, o, rfl, c⟩ := Sl.at (HL.out.only hon) hlt
   have hpf := pairFrom_at (x := x) hlt
   have hjz : (j : Int) < (l.length : Int) := by omega
   have c1 := progNamed (l.getD j default) x b wr (hon.cell HX.out (fun h => h))
   obtain ⟨q0, q1⟩ := c
   by_cases hx : (l.getD j default).name = x
   ·have HR := Lib.hid (show pairOf l x = j by rw [hat, hpf, if_pos hx])
    rw [show decide ((l.getD j default).name = x) = true by simpa using hx] at c1
    have C1 := Lib.hid c1
    generalize l.getD j default = k at *
    clear hat hpf hx hon c1
    go_wp2_with (fail)
    refine C1.out.mono ?_
    rintro e w1 ⟨rfl, ho1⟩
    have HON1 := Lib.hid (HON.out.trans ho1 (fun _ h _ => h))
    clear ho1 C1
    go_wp2
    go_ret
    rw [HR.out]
    exact ⟨rfl, HON1.out⟩
   ·have HR := Lib.hid (show pairOf l x = pairFrom x (j + 1) (l.drop (j + 1)) by rw [hat, hpf, if_neg hx])
    rw [show decide ((l.getD j default).name = x) = false by simpa using hx] at c1
    have C1 := Lib.hid c1
    generalize l.getD j default = k at *
    clear hat hpf hx hon c1
    go_wp2_with (fail)
    refine C1.out.mono ?_
    rintro e w1 ⟨rfl, ho1⟩
    have HON1 := Lib.hid (HON.out.trans ho1 (fun _ h _ => h))
    clear ho1 C1
    go_wp2
    go_roundw
    case rel => exact ⟨j + 1, by go_num, by omega, HR.out, HON1.out⟩
    case measure => simp [intOf]; omega
  ·have HR := Lib.hid (show pairOf l x = -1 by rw [hat, List.drop_of_length_le (by omega)]; rfl)
   obtain rfl : j = l.length := by omega
   clear hat hj hlt hon
   go_wp2
   go_ret
   rw [HR.out]
   exact ⟨rfl, HON.out⟩
set_option maxHeartbeats 2000000 in
set_option maxRecDepth 100000 in
theorem placeFew (v : Value) (l : List PairV) (x : ByteArray) (b : Nat) (w : World) (hl : Pairs w v l) (hb : w.cell? ⟨b, 0, none⟩ = some v) (hn : l.length ≤ 9223372036854775806) :
  Calls Tryz.prog 125 #[.string x, .pointer (some ⟨b, 0, none⟩)] w fun e w' => e = .returned (.int .i64 (pairOf l x)) ∧ Only (fun _ => False) w w' := by
 have ho := (Only.refl (fun _ => False) w).alloc (.cells #[.string x] 9)
 have hb0 := heap_alloc_new w (.cells #[.string x] 9)
 have c1 := indexPr v l x w.heap.size _ (hl.only ho) (cell_blk hb0 0) hn
 have hb2 := ho.cell hb (fun h => h)
 obtain ⟨ao, cap, rfl, h1, h2, h3, h4⟩ := id hl
 have HO := Lib.hid ho
 have C1 := Lib.hid c1
 clear ho hb0 c1 hb hl h3 h4
 go_enter Tryz.func125, Tryz.ntmps125
 go_wp2_with (fail)
 refine C1.out.mono ?_
 rintro e w1 ⟨rfl, ho1⟩
 have HO1 := Lib.hid (HO.out.trans ho1 (fun _ h _ => h))
 clear ho1 C1
 go_wp2
 go_ret
 exact ⟨rfl, HO1.out⟩
def keyB (s : ByteArray) : Lit := .string s.data.toList
theorem keyB_inj {a b : ByteArray} (h : keyB a = keyB b) : a = b := by
 unfold keyB at h
 injection h with h
 apply toList_inj'
 rw [Lib.toList_data, Lib.toList_data, h]
def putN (l : List PairV) (D : DataW Unit) (ns : List Nat) : DataW Unit := ns.foldl (fun D i => D.put (keyB (l.getD i default).name) (.lit (.int .i64 i))) D
def treeD (l : List PairV) (ns : List Nat) : DataW Unit := putN l (.map []) ns
theorem treeD_snoc (l : List PairV) (ns : List Nat) (i : Nat) : treeD l (ns ++ [i]) = (treeD l ns).put (keyB (l.getD i default).name) (.lit (.int .i64 i)) := by simp [treeD, putN]
theorem putN_map (l : List PairV) : ∀ (ns : List Nat) (D : DataW Unit), IsMap D → IsMap (putN l D ns)
 | [], D, h => h
 | i :: ns, D, h => putN_map l ns _ (h.put _ _)
theorem treeD_map (l : List PairV) (ns : List Nat) : IsMap (treeD l ns) := putN_map l ns _ isMap_empty
def backN (n j : Nat) : List Nat := ((List.range n).drop j).reverse
theorem backN_end (n : Nat) : backN n n = [] := by simp [backN]
theorem backN_step {n j : Nat} (h : j < n) : backN n j = backN n (j + 1) ++ [j] := by
 unfold backN
 rw [List.drop_eq_getElem_cons (by simpa using h), List.reverse_cons]
 simp
theorem backN_len (n j : Nat) : (backN n j).length = n - j := by simp [backN]
theorem tree_look {l : List PairV} (x : ByteArray) : ∀ (k j : Nat), j + k = l.length →
  Maps.has (treeD l (backN l.length j)) (keyB x) = !decide (pairFrom x j (l.drop j) < 0) ∧ (¬ pairFrom x j (l.drop j) < 0 → (treeD l (backN l.length j)).atKey (keyB x) (.lit (.int .i64 0)) = .lit (.int .i64 (pairFrom x j (l.drop j))))
 | 0, j, h => by
  obtain rfl : j = l.length := by omega
  rw [backN_end, List.drop_length]
  exact ⟨rfl, fun h => absurd (show (-1 : Int) < 0 by decide) h⟩
 | k + 1, j, h => by
  have hj : j < l.length := by omega
  have ih := tree_look (l := l) x k (j + 1) (by omega)
  rw [backN_step hj, treeD_snoc, pairFrom_at hj]
  by_cases hx : (l.getD j default).name = x
  ·rw [if_pos hx, hx, has_put_same (k := keyB x) (treeD_map l _) (by unfold keyB; trivial), atKey_put_same (k := keyB x) (treeD_map l _) (by unfold keyB; trivial)]
   exact ⟨by simp, fun _ => rfl⟩
  ·have hk : keyB x ≠ keyB (l.getD j default).name := fun e => hx (keyB_inj e).symm
   rw [if_neg hx, has_put_other hk, atKey_put_other hk]
   exact ih
theorem tree_has (l : List PairV) (x : ByteArray) : Maps.has (treeD l (backN l.length 0)) (keyB x) = !decide (pairOf l x < 0) := (tree_look (l := l) x l.length 0 (by omega)).1
theorem tree_at {l : List PairV} {x : ByteArray} (h : ¬ pairOf l x < 0) : (treeD l (backN l.length 0)).atKey (keyB x) (.lit (.int .i64 0)) = .lit (.int .i64 (pairOf l x)) := (tree_look (l := l) x l.length 0 (by omega)).2 h
theorem zero_int8 (w : World) : (zeroValue 3).run Tryz.prog w = .ok (.int .i64 0) w := by kernel_rfl
abbrev TreeMap (w : World) (l : List PairV) (b n : Nat) (ns : List Nat) : Prop := w.ownsMap Tryz.prog 9 (plainElem (H := Unit) Tryz.prog 3) b n (treeD l ns)
theorem only_map {w w' : World} {l : List PairV} {b n : Nat} {ns : List Nat} (h : TreeMap w l b n ns) (ho : Only (fun _ => False) w w') : TreeMap w' l b n ns := by
 obtain ⟨es, clock, h1, h2⟩ := h
 exact ⟨es, clock, ho.heap h1 (fun h => h), h2⟩
theorem lit_eq {c d : Int} (h : (DataW.lit (.int .i64 c) : DataW Unit) = .lit (.int .i64 d)) : c = d := by
 injection h with h
 injection h
set_option maxHeartbeats 2000000 in
set_option maxRecDepth 100000 in
theorem placeMap (l : List PairV) (x : ByteArray) (b mb : Nat) (w : World) (hb : w.cell? ⟨b, 0, none⟩ = some (.map (some mb))) (hm : TreeMap w l mb l.length (backN l.length 0)) (hx : x.size ≤ maxLen) :
  Calls Tryz.prog 129 #[.string x, .pointer (some ⟨b, 0, none⟩)] w fun e w' => e = .returned (.int .i64 (pairOf l x)) ∧ Only (fun _ => False) w w' := by
 have HM := Lib.hid hm
 have HX := Lib.hid hx
 have hh := tree_has l x
 have ha := tree_at (l := l) (x := x)
 clear hm hx
 by_cases hneg : pairOf l x < 0
 ·rw [show decide (pairOf l x < 0) = true by simpa using hneg, Bool.not_true] at hh
  have HH := Lib.hid hh
  have HP : Hid (pairOf l x = -1) := by
   refine Lib.hid ?_
   rcases pairOf_cases l x with h | ⟨j, _, h⟩
   ·exact h
   ·omega
  clear hh ha hneg
  go_enter Tryz.func129, Tryz.ntmps129
  go_wp2_with (at_lookup; go_loud (refine wpList_lookup_own_ok_int _ rfl _ _ 106 rfl 9 3 .i64 (Maps.string_keyed Tryz.underlying9) Tryz.underlying106 Tryz.underlying3 (zero_int8 _) mb l.length (treeD l (backN l.length 0)) rfl (by exact HM.out) _ _ rfl (Go.WideMaps.keyOf_string_mk Tryz.underlying9 HX.out) ?_); intro c hat hwc; rw [show Maps.has (treeD l (backN l.length 0)) (.string x.data.toList) = _ from HH.out]; clear hat hwc)
  go_ret
  rw [HP.out]
  exact ⟨rfl, Only.refl _ _⟩
 ·rw [show decide (pairOf l x < 0) = false by simpa using hneg, Bool.not_false] at hh
  have HH := Lib.hid hh
  have HA := Lib.hid (ha hneg)
  clear hh ha hneg
  go_enter Tryz.func129, Tryz.ntmps129
  go_wp2_with (at_lookup; go_loud (refine wpList_lookup_own_ok_int _ rfl _ _ 106 rfl 9 3 .i64 (Maps.string_keyed Tryz.underlying9) Tryz.underlying106 Tryz.underlying3 (zero_int8 _) mb l.length (treeD l (backN l.length 0)) rfl (by exact HM.out) _ _ rfl (Go.WideMaps.keyOf_string_mk Tryz.underlying9 HX.out) ?_); intro c hat hwc; rw [show Maps.has (treeD l (backN l.length 0)) (.string x.data.toList) = _ from HH.out]; have hc := lit_eq (hat.symm.trans HA.out); have HC := Lib.hid hc; clear hat hwc hc)
  go_ret
  rw [HC.out]
  exact ⟨rfl, Only.refl _ _⟩
attribute [local go_sem] Oper.semAt_some
structure CellsK (W W' : World) : Prop where
 size : W.heap.size ≤ W'.heap.size
 cell : ∀ a u, W.cell? a = some u → W'.cell? a = some u
theorem CellsK.refl (W : World) : CellsK W W := ⟨Nat.le_refl _, fun _ _ h => h⟩
theorem CellsK.trans {X Y Z : World} (h : CellsK X Y) (k : CellsK Y Z) : CellsK X Z := ⟨Nat.le_trans h.size k.size, fun a u hc => k.cell a u (h.cell a u hc)⟩
theorem CellsK.only {W W' : World} (ho : Only (fun _ => False) W W') : CellsK W W' := ⟨ho.size, fun a u h => ho.cell h (fun h => h)⟩
theorem cellsK_putObj {W : World} {l : Nat} {o o' : Obj} (hl : W.heap[l]? = some o) (ho : o.isCells = false) : CellsK W (W.putObj l o') := by
 refine ⟨by simp, fun a u h => ?_⟩
 have hne : a.block ≠ l := by
  intro e
  unfold World.cell? at h
  rw [e, hl] at h
  cases o with
  | cells => cases ho
  | _ => simp at h
 exact (World.cell?_of_block (World.putObj_heap_other hne)).trans h
theorem Pairs.cells {w W : World} {v : Value} {l : List PairV} (h : Pairs w v l) (k : CellsK w W) : Pairs W v l := h.imp (fun _ _ _ _ _ h => ⟨k.cell _ _ h.c0, k.cell _ _ h.c1⟩)
def vals {n : Nat} (xs : List (Fin n)) : List Nat := xs.map (fun x => x.val)
theorem vals_snoc {n : Nat} (xs : List (Fin n)) (x : Fin n) : vals (xs ++ [x]) = vals xs ++ [x.val] := by simp [vals]
theorem vals_len {n : Nat} (xs : List (Fin n)) : (vals xs).length = xs.length := by simp [vals]
abbrev encP (l : List PairV) (x : Fin l.length) : Array Value := #[.int .i64 (x.val : Int), .agg #[.string (l.getD x.val default).name, .string (l.getD x.val default).super]]
set_option maxHeartbeats 4000000 in
set_option maxRecDepth 100000 in
theorem back_in (n : Nat) (hn : 1 ≤ n) (v : Value) (l : List PairV) (w : World) (Bn : Nat) (hp : Pairs w v l) (hBn : w.cell? ⟨Bn, 0, none⟩ = some v) (hlen : l.length ≤ 4611686018427387904)
  (lp : Nat) (J Jx : List (Fin l.length) → World → Prop) (W : World)
  (hY : ∀ pre x W1, J pre W1 → pre.length < l.length → YieldAt Fence.wide (n - 1) Tryz.prog lp (encP l x) W1 fun e W' =>
   (e = .returned (.bool true) ∧ J (pre ++ [x]) W' ∧ CellsK W1 W') ∨ (e = .returned (.bool false) ∧ Jx (pre ++ [x]) W'))
  (hs : CellsK w W) (h0 : J [] W) :
  CallsIn Fence.wide n Tryz.prog 149 #[.func (.yield lp) #[] #[], .pointer (some ⟨Bn, 0, none⟩)] W fun e W' => (∃ v, e = .returned v) ∧
   ((∃ xs : List (Fin l.length), vals xs = backN l.length 0 ∧ J xs W') ∨ (∃ pre : List (Fin l.length), True ∧ Jx pre W')) := by
 have HY := Lib.hid hY
 have HS := Lib.hid hs
 have HP := Lib.hid hp
 have HBN := Lib.hid hBn
 have hcb := hs.cell _ _ hBn
 obtain ⟨ao, cap, rfl, p1, p2, p3, -⟩ := id hp
 clear hY hs hp hBn p3
 refine callsIn_of_wp Tryz.func149 rfl trivial ?_ rfl
 simp only [Tryz.ntmps149, List.size_toArray, List.length_cons, List.length_nil, Nat.reduceAdd, Nat.reduceSub, Array.replicate_succ, Array.replicate_zero, List.push_toArray, List.append_toArray, List.nil_append, List.cons_append]
 gi_wp2
 clear hcb
 gi_loopw [3] (fun i wr => ∃ (j : Nat) (pre : List (Fin l.length)), i = .int .i64 ((j : Int) - 1) ∧ j ≤ l.length ∧ Hid (vals pre = backN l.length j) ∧ Hid (CellsK w wr) ∧ Hid (J pre wr)) (fun i wr => ((intOf i) + 1).toNat)
 case atStart => exact ⟨l.length, [], rfl, Nat.le_refl _, Lib.hid (by rw [backN_end]; rfl), HS, Lib.hid h0⟩
 case round =>
  obtain ⟨j, pre, rfl, hj, HPRE, HSR, HJR⟩ := hrel
  have hcb := HSR.out.cell _ _ HBN.out
  by_cases h0 : 0 < j
  ·obtain ⟨m, rfl⟩ : ∃ m, j = m + 1 := ⟨j - 1, by omega⟩
   have hm : m < l.length := by omega
   have hmz : ((m + 1 : Nat) : Int) - 1 = (m : Int) := by omega
   rw [hmz]
   have hm0 : (0 : Int) ≤ (m : Int) := by omega
   have hmlz : (m : Int) < (l.length : Int) := by omega
   obtain ⟨g, o, rfl, y⟩ := Sl.at (HP.out.cells HSR.out) hm
   obtain ⟨y0, y1⟩ := y
   have hpl : pre.length < l.length := by
    have := congrArg List.length HPRE.out
    rw [vals_len, backN_len] at this
    omega
   have HPRE2 : Hid (vals (pre ++ [(⟨m, hm⟩ : Fin l.length)]) = backN l.length m) := Lib.hid (by rw [vals_snoc, HPRE.out, backN_step hm])
   obtain ⟨fn, tmps, assign, body, hy, hR⟩ := HY.out pre ⟨m, hm⟩ wr HJR.out hpl
   unfold encP at hy
   dsimp only at hy
   generalize l.getD m default = p at *
   have HR3 := Lib.hid hR
   clear hR hmz hpl
   gi_wp2
   refine HR3.out.mono ?_
   rintro e9 W3 (⟨rfl, hJ3, hk3⟩ | ⟨rfl, hJx3⟩)
   ·have HJ3 := Lib.hid hJ3
    have HS3 := Lib.hid (HSR.out.trans hk3)
    clear hJ3 hk3 hy
    gi_wp2
    go_roundw
    case rel => exact ⟨m, _, rfl, by omega, HPRE2, HS3, HJ3⟩
    case measure => simp [intOf]
   ·have HJ3 := Lib.hid hJx3
    clear hJx3 hy
    gi_wp2
    refine bodyPost_ret (results_none rfl _ _ _) rfl ?_
    exact ⟨⟨_, rfl⟩, .inr ⟨_, trivial, HJ3.out⟩⟩
  ·obtain rfl : j = 0 := by omega
   gi_wp2
   go_end0
   exact ⟨⟨_, rfl⟩, .inl ⟨_, HPRE.out, HJR.out⟩⟩
theorem backs_in (ao : Option Addr) (k cap : Nat) (w : World) : Calls Tryz.prog 128 #[.slice ao k cap] w fun e w' => e = .returned (.func (.func 149) #[] #[.pointer (some ⟨w.heap.size, 0, none⟩)]) ∧ w' = w.alloc (.cells #[.slice ao k cap] 42) := by
 go_enter Tryz.func128, Tryz.ntmps128
 go_wp2
 go_ret
 exact ⟨rfl, rfl⟩
def PlaceV (w : World) (l : List PairV) (pv : Value) : Prop := ∃ n b, pv = .func (.func n) #[] #[.pointer (some ⟨b, 0, none⟩)] ∧ (∀ args w, (callFunc n args).run Tryz.prog w = .ok (.enter n args) w) ∧
 ∀ W x, Only (fun _ => False) w W → x.size ≤ maxLen → Calls Tryz.prog n #[.string x, .pointer (some ⟨b, 0, none⟩)] W fun e w' => e = .returned (.int .i64 (pairOf l x)) ∧ Only (fun _ => False) W w'
theorem PlaceV.only {w w' : World} {l : List PairV} {pv : Value} (h : PlaceV w l pv) (ho : Only (fun _ => False) w w') : PlaceV w' l pv := by
 obtain ⟨n, b, h1, h2, h3⟩ := h
 exact ⟨n, b, h1, h2, fun W x hW hx => h3 W x (ho.trans hW (fun _ h _ => h)) hx⟩
theorem make_map8 (n : Int) (w : World) : (Instr.makeMap 106 (some (.int .i64 n))).run Tryz.prog w = .ok (.map (some w.heap.size)) (w.alloc (.map #[] 0)) := by
 have h : (underlying 106).run Tryz.prog w = .ok (.map 9 3) w := by kernel_rfl
 simp only [Instr.makeMap, Sem.run_bind, h, Result.andThen]
 rfl
theorem heap_kept8 {X Y : World} {B : Nat} {o : Obj} {row : Option Nat} (h : X.heap[B]? = some o) (hc : o.isCells = true) (hg : X.grownBy Y row) (hr : ∀ r, row = some r → ∃ o : Obj, X.heap[r]? = some o ∧ o.isCells = false) : Y.heap[B]? = some o :=
 (hg.block B (heap_lt h) (fun e => by obtain ⟨o', h1, h2⟩ := hr B e.symm; rw [h] at h1; cases h1; rw [hc] at h2; cases h2)).trans h
theorem boxed_of_heap {W w1 : World} {B : Nat} {t : TypeId} {v : Value} {row : Option Nat} (h : Boxed W B t v) (hg : W.grownBy w1 row) (hne : some B ≠ row) : Boxed w1 B t v := by
 have h' : W.heap[B]? = _ := h
 exact (hg.block B (heap_lt h') hne).trans h'
set_option maxHeartbeats 8000000 in
set_option maxRecDepth 100000 in
theorem progPlacing (v : Value) (l : List PairV) (w : World) (hp : Pairs w v l) (hlen : l.length ≤ 4611686018427387904) (hsz : ∀ p ∈ l, p.name.size ≤ maxLen) :
  Calls Tryz.prog 92 #[v] w fun e w' => ∃ pv, e = .returned pv ∧ PlaceV w' l pv ∧ Only (fun _ => False) w w' := by
 obtain ⟨ao, cap, rfl, p1, p2, p3, -⟩ := id hp
 have ho1 := (Only.refl (fun _ => False) w).alloc (.cells #[.slice ao l.length cap] 42)
 have hb1 := heap_alloc_new w (.cells #[.slice ao l.length cap] 42)
 by_cases h64 : l.length ≤ 64
 ·have h64z : (l.length : Int) ≤ 64 := by omega
  have HO := Lib.hid ho1
  have HP : Hid (PlaceV (w.alloc (.cells #[.slice ao l.length cap] 42)) l (.func (.func 125) #[] #[.pointer (some ⟨w.heap.size, 0, none⟩)])) :=
   Lib.hid ⟨_, _, rfl, enters_of Tryz.func125 (by kernel_rfl) rfl, fun W x hW hx => placeFew _ l x _ W ((hp.only ho1).only hW) (hW.cell (cell_blk hb1 0) (fun h => h)) (by omega)⟩
  clear hp p3 hb1 ho1
  go_enter Tryz.func92, Tryz.ntmps92
  go_wp2
  go_ret
  exact ⟨_, rfl, HP.out, HO.out⟩
 ·have h64z : ¬ (l.length : Int) ≤ 64 := by omega
  have HSZ := Lib.hid hsz
  have HPW := Lib.hid hp
  have hmm := make_map8
  clear p3 hb1 ho1 hsz hp
  refine (callsIn_wide (n := 9)).1 ?_
  refine callsIn_of_wp_marks Tryz.func92 rfl trivial ?_ rfl
  simp only [Tryz.ntmps92, List.size_toArray, List.length_cons, List.length_nil, Nat.reduceAdd, Nat.reduceSub, Array.replicate_succ, Array.replicate_zero, List.push_toArray, List.append_toArray, List.nil_append, List.cons_append]
  gi_wp2_with (fail)
  refine ⟨trivial, (callsIn_wide.2 (backs_in ao l.length cap _)).mono ?_⟩
  rintro e w' ⟨rfl, rfl⟩
  gi_wp2
  have b3 := (Boxed.new ((w.alloc (.cells #[.slice ao l.length cap] 42)).alloc (.map #[] 0)) 106 (.map (some (w.heap.size + 1)))).alloc (.cells #[.slice ao l.length cap] 42)
  have b4 := Boxed.new (((w.alloc (.cells #[.slice ao l.length cap] 42)).alloc (.map #[] 0)).alloc (.cells #[.map (some (w.heap.size + 1))] 106)) 42 (.slice ao l.length cap)
  have hown := ((World.ownsMap_made (w.alloc (.cells #[.slice ao l.length cap] 42)) Tryz.prog 9 (plainElem (H := Unit) Tryz.prog 3)).alloc (.cells #[.map (some (w.heap.size + 1))] 106)).alloc (.cells #[.slice ao l.length cap] 42)
  have ho := ((((Only.refl (fun _ => False) w).alloc (.cells #[.slice ao l.length cap] 42)).alloc (.map #[] 0)).alloc (.cells #[.map (some (w.heap.size + 1))] 106)).alloc (.cells #[.slice ao l.length cap] 42)
  have hszz : ((((w.alloc (.cells #[.slice ao l.length cap] 42)).alloc (.map #[] 0)).alloc (.cells #[.map (some (w.heap.size + 1))] 106)).alloc (.cells #[.slice ao l.length cap] 42)).heap.size = w.heap.size + 4 := by simp
  simp only [World.size_alloc] at b3 b4 hown
  obtain ⟨W0, hW0⟩ : ∃ W0, ((((w.alloc (.cells #[.slice ao l.length cap] 42)).alloc (.map #[] 0)).alloc (.cells #[.map (some (w.heap.size + 1))] 106)).alloc (.cells #[.slice ao l.length cap] 42)) = W0 := ⟨_, rfl⟩
  rw [hW0] at b3 b4 hown ho hszz ⊢
  clear hW0
  have hp0 := HPW.out.only ho
  have HOWN := Lib.hid hown
  clear hown
  refine wpIn_rangeFunc_ownH (α := Fin l.length) (F := Fence.wide) rfl (by decide) (gf := 149) (lb := #[.pointer (some ⟨w.heap.size + 1 + 1 + 1, 0, none⟩)]) rfl trivial (enters_of Tryz.func149 (by kernel_rfl) rfl)
   (encs := encP l) (Kp := CellsK) (S := fun xs => vals xs = backN l.length 0) (Sp := fun _ => True) (N := l.length) (w0 := W0)
   (fun lp J Jx W hW hJ hJx hY h0 => back_in 8 (by decide) (.slice ao l.length cap) l W0 (w.heap.size + 1 + 1 + 1) hp0 b4.cell hlen lp J Jx W hY (CellsK.only (Only.of_below hW _)) h0)
   (fun h k => CellsK.trans h k) (fun W lp o o' h1 h2 h3 h4 => cellsK_putObj h2 h3) (Below.refl _ _) (fun _ => rfl)
   (fun pre W => (Boxed W (w.heap.size + 1 + 1) 106 (.map (some (w.heap.size + 1))) ∧ TreeMap W l (w.heap.size + 1) pre.length (vals pre)) ∧ Below w.heap.size w W)
   (fun _ _ _ => False)
   (OwnFrom.and (OwnFrom.and (Own.from (boxed_own _ _ _) _) (fun s X Y row (hs : TreeMap X l (w.heap.size + 1) s.length (vals s)) hg hr => (show TreeMap Y l (w.heap.size + 1) s.length (vals s) from hs.kept hg (fun e => by have := (hr _ e.symm).1; omega)))) (ownFrom_below (Nat.le_refl _) (by omega)))
   (fun c s X Y row hs _ _ => hs)
   ⟨⟨b3, HOWN.out⟩, ho.none⟩
   (fun x a' W => ∃ Bx, W.heap[Bx]? = some (.cells #[.string (l.getD x.val default).name, .string (l.getD x.val default).super] 95 (0, 0)) ∧ a' = { tmps := #[.slice ao l.length cap, .pointer (some ⟨w.heap.size, 0, none⟩), .nilFunc, .pointer (some ⟨w.heap.size + 1 + 1, 0, none⟩), .int .i64 (x.val : Int), .pointer (some ⟨Bx, 0, none⟩), .slice ao l.length cap, .int .i64 l.length, .bool false, undef, .slice ao l.length cap, .int .i64 l.length, .map (some (w.heap.size + 1)), .slice ao l.length cap, .func (.func 149) #[] #[.pointer (some ⟨w.heap.size + 1 + 1 + 1, 0, none⟩)], .int .i64 (x.val : Int), .agg #[.string (l.getD x.val default).name, .string (l.getD x.val default).super], undef, undef, undef, undef, undef], defers := [] })
   (fun x a' _ X Y row hs hg hr => by obtain ⟨Bx, h1, h2⟩ := hs; exact ⟨Bx, heap_kept8 h1 rfl hg (fun r e => (hr r e).2), h2⟩)
   ?assign ?body ?done ?stop
  case assign =>
   rintro lp pre x W K ⟨⟨bM, hm⟩, hB⟩ hK
   obtain ⟨xv, hx⟩ := x
   have hnew := heap_alloc_new W (.cells #[.string (l.getD xv default).name, .string (l.getD xv default).super] 95)
   unfold encP at hK ⊢
   dsimp only at hK ⊢
   generalize l.getD xv default = p at *
   gi_wp2
   exact hK _ _ ((KeepsOthers.alloc _ _).from _) (CellsK.only ((Only.refl _ W).alloc _)) ⟨⟨bM.alloc _, hm.alloc _⟩, hB.alloc hB.size _⟩ ⟨W.heap.size, hnew, rfl⟩
  case body =>
   rintro lp pre ⟨xv, hx⟩ a' W hl2 ⟨r, hr⟩ ⟨⟨bM, hm⟩, hB⟩ ⟨Bx, hbx, rfl⟩ hlt
   dsimp only at hbx ⊢
   have cM := bM.cell
   have q0 := cell_blk hbx 0
   have HM := Lib.hid hm
   have HB1 := Lib.hid hB
   have BM := Lib.hid bM
   have hks := HSZ.out _ (getD_mem hx)
   have HKS := Lib.hid hks
   have HSN : Hid (treeD l (vals (pre ++ [(⟨xv, hx⟩ : Fin l.length)])) = (treeD l (vals pre)).put (keyB (l.getD xv default).name) (.lit (.int .i64 xv))) := Lib.hid (by rw [vals_snoc, treeD_snoc])
   have hxi : (xv : Int) ≤ 4611686018427387904 := by omega
   simp only [List.getElem?_toArray, List.getElem?_cons_zero] at q0
   generalize l.getD xv default = p at *
   clear hm hB bM hks hbx
   gi_wp2_with (gi_at_mapUpdate; go_loud (refine wpListIn_mapUpdate_own _ rfl _ _ _ 106 rfl 9 3 (Maps.string_keyed Tryz.underlying9) Tryz.underlying106 _ (w.heap.size + 1) pre.length _ rfl HM.out (by unfold maxLen; omega) _ _ _ rfl rfl (Go.WideMaps.keyOf_string_mk Tryz.underlying9 HKS.out) _ [] (plainElem_int Tryz.underlying3 (WalkArith.wf_i64 (by omega))) ?_); intro w1 hown1 hgrow1)
   have hck : CellsK W w1 := ⟨hgrow1.size, fun a u h => by
    have hne : a.block ≠ w.heap.size + 1 := fun e => by
     obtain ⟨es, clock, hmb, _⟩ := HM.out
     unfold World.cell? at h
     rw [e, hmb] at h
     simp at h
    exact (World.cell?_of_block (hgrow1.block _ (World.block_lt_of_cell? W a h) (fun e => hne (by injection e)))).trans h⟩
   refine ⟨KeepsFrom.of_grownBy hgrow1 (fun j e => by cases e; omega), hck, ⟨?_, ?_⟩, HB1.out.grown hgrow1 HB1.out.size (fun k e => by cases e; omega)⟩
   ·exact boxed_of_heap BM.out hgrow1 (fun e => by injection e with e; omega)
   ·unfold TreeMap
    rw [HSN.out, List.length_append]
    exact hown1
  case done =>
   rintro D xs W hD hS ⟨⟨bM, hm⟩, hB⟩ hK
   have hln : xs.length = l.length := by
    have := congrArg List.length hS
    rw [vals_len, backN_len] at this
    omega
   rw [hS, hln] at hm
   have hon := Only.of_below hB (fun _ => False)
   have hB2 := hB.trans (belowK_b (w := w) (Nat.le_refl _) W D _ (.deferred none) (by omega) hK rfl rfl)
   have hm2 : TreeMap (W.putObj D (.deferred none)) l (w.heap.size + 1) l.length (backN l.length 0) := by
    obtain ⟨es, clock, h1, h2⟩ := hm
    exact ⟨es, clock, (World.putObj_heap_other (by intro e; rw [← e] at hK; rw [h1] at hK; cases hK)).trans h1, h2⟩
   have hc2 := (cellsK_putObj (o' := .deferred none) hK rfl).cell _ _ bM.cell
   gi_wp2
   refine ⟨by simp, .inl ⟨_, _, rfl, run_takeDeferred hK, ?_⟩⟩
   refine ⟨_, results_tmp rfl _ _ _, _, rfl, ?_, Only.of_below hB2 _⟩
   exact ⟨_, _, rfl, enters_of Tryz.func129 (by kernel_rfl) rfl, fun W' x hW' hx => placeMap l x _ (w.heap.size + 1) W' (hW'.cell hc2 (fun h => h)) (only_map hm2 hW') hx⟩
  case stop =>
   rintro D c pre W hD hS h hK
   exact h.elim
end Go.Proofs.YtgdgffnaknkbcaaGreatDoor
