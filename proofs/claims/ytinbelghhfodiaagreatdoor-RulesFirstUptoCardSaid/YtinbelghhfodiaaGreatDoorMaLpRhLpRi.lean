import Derived.Test.YtinbelghhfodiaaGreatDoorMaIxALpRa
import Derived.Test.YtinbelghhfodiaaGreatDoorMaLpRcLpRb
import Derived.Test.YtinbelghhfodiaaGreatDoorMaLpRf
namespace Go.Proofs.YtinbelghhfodiaaGreatDoor
set_option maxHeartbeats 16000000
open Lib (hid)
set_option linter.unusedSectionVars false
open Go.RowKit Go.Maps
set_option linter.unusedVariables false
set_option linter.unusedSimpArgs false
def RuleP (ks : List KindV) (r j : Nat) : Prop := match r with
 | 0 => plainN (nums (ks.getD j default).name) = true ∧ findZ ks (ks.getD j default).name = (j : Int)
 | 1 => leadsZ ks (ks.getD j default) = true
 | 2 => ∀ i, i < (ks.getD j default).fields.length → FieldOK (ks.getD j default).fields i
 | 3 => ∀ i, i < (ks.getD j default).meths.length → MethOK (ks.getD j default).meths i
 | _ => agreesZ ks (ks.getD j default) = true
def RuleTo (w : World) (p : Prop) (e : Ending) (w' : World) : Prop := (∃ b : Bool, e = .returned (.bool b) ∧ (b = true ↔ p)) ∧ Only (fun _ => False) w w'
theorem names_all {ks : List KindV} (hf : ∀ k ∈ ks, FineK k) : NamesR (treeZ ks) := fun p hp => by
 obtain ⟨k, hk, rfl⟩ := List.mem_map.1 hp
 have h1 := (hf k hk).name
 have h2 := (hf k hk).super
 exact ⟨by show k.name.size ≤ maxLen; unfold maxLen; omega, by show k.super.size ≤ maxLen; unfold maxLen; omega⟩
section
variable {G : Nat → Prop} {fv : Nat → Value} {w : World} {pb : Nat} {ks : List KindV} {cl : Nat → ClassV} (h : ProgG G fv w pb ks cl (fun _ _ => 0)) (h13 : 13 ≤ ks.length) (hsm : ks.length ≤ 64) (hf : ∀ k ∈ ks, FineK k)
 {j lb : Nat} (hj13 : 13 ≤ j) (hj : j < ks.length) (hk : ListedAt G w j (ks.getD j default) (cl j) (fv j) lb)
include h h13 hsm hf hj13 hj hk
theorem ask0 : Calls Tryz.prog 102 #[.pointer (some ⟨pb, 0, none⟩), .pointer (some ⟨lb, 0, none⟩)] w (RuleTo w (RuleP ks 0 j)) := by
 have hfj := hf _ (getD_memK hj)
 obtain ⟨-, e, vp, vf, vm, vom, h1, h2, h3⟩ := hk
 refine (pHasOwn h (by omega) h1 h2.pool (k := ks.getD j default) (by rw [e]; rfl) hfj.name).mono ?_
 rintro e w' ⟨rfl, ho⟩
 refine ⟨⟨_, rfl, ?_⟩, ho⟩
 rw [Bool.and_eq_true, beq_iff_eq]
 exact Iff.rfl
theorem ask1 : Calls Tryz.prog 103 #[.pointer (some ⟨pb, 0, none⟩), .pointer (some ⟨lb, 0, none⟩)] w (RuleTo w (RuleP ks 1 j)) := by
 have hfj := hf _ (getD_memK hj)
 obtain ⟨-, e, vp, vf, vm, vom, h1, h2, h3⟩ := hk
 refine (pLeads h (by omega) hsm (names_all hf) h1 h2.pool (k := ks.getD j default) (by rw [e]; rfl) (by rw [e]; rfl) (by have := hfj.name; unfold maxLen; omega)).mono ?_
 rintro e w' ⟨rfl, ho⟩
 exact ⟨⟨_, rfl, Iff.rfl⟩, ho⟩
theorem knownL : KnownG G w j (.iface 128 (.pointer (some ⟨lb, 0, none⟩))) (ks.getD j default) (cl j) (fv j) := by
 obtain ⟨hG, e, vp, vf, vm, vom, h1, h2, h3⟩ := hk
 exact .inr ⟨hj13, e, lb, vp, vf, vm, vom, rfl, hG, h1, h2, h3⟩
theorem ask2 (pv : Value) {b2 b3 : Nat} (hb2 : w.cell? ⟨b2, 0, none⟩ = some (.func (.func 105) #[] #[])) (hb3 : w.cell? ⟨b3, 0, none⟩ = some (.func (.func 106) #[] #[])) :
  Calls Tryz.prog 135 #[pv, .pointer (some ⟨lb, 0, none⟩), .pointer (some ⟨b2, 0, none⟩), .pointer (some ⟨b3, 0, none⟩)] w (RuleTo w (RuleP ks 2 j)) := by
 have hfj := hf _ (getD_memK hj)
 obtain ⟨v, hv, hc⟩ := (ofFields (G := G) (fv := fv) (pb := pb) (cl := cl) (sl := fun _ _ => 0) hf).calls w h j hj _ (knownL h h13 hsm hf hj13 hj hk)
 refine (pEach (ofn := 105) (isn := 106) (enters_of Tryz.func105 (by kernel_rfl) rfl) (enters_of Tryz.func106 (by kernel_rfl) rfl) pv hb2 hb3 v _ (fun _ => 0)
  (fun i => (oneZ8 (nums ((ks.getD j default).fields.getD i default).desc)).isSome && plainN (nums ((ks.getD j default).fields.getD i default).name)) hv hfj.fields (hc w (Only.refl _ _)) (fun i hi W => ?_)).mono ?_
 ·have hs := hfj.fnm _ (getD_memM hi)
  exact pIsField _ 0 W hs.1 (by have := hs.2; omega)
 ·rintro e w' ⟨⟨b, rfl, hb⟩, ho⟩
  refine ⟨⟨b, rfl, hb.trans ?_⟩, ho⟩
  show _ ↔ ∀ i, i < (ks.getD j default).fields.length → FieldOK (ks.getD j default).fields i
  constructor
  ·intro hh i hi
   have := hh i hi
   rw [Bool.and_eq_true] at this
   exact ⟨this.1.1, this.1.2, this.2⟩
  ·intro hh i hi
   have := hh i hi
   rw [Bool.and_eq_true]
   exact ⟨⟨this.1, this.2.1⟩, this.2.2⟩
omit h h13 hsm hf hj13 hj hk in
open Classical in
theorem meth_ok {ms : List MethN} {i : Nat} (hfl : (ms.getD i default).flags = 0 ∨ (ms.getD i default).flags = 8) :
  (decide (∃ x, Meth (nums (ms.getD i default).desc) x ∧ methZ (ms.getD i default) x = true) = true ∧ hasZ ms (ms.getD i default).name (ms.getD i default).desc = (i : Int)) ↔ MethOK ms i := by
 rw [decide_eq_true_eq]
 unfold MethOK methZ
 by_cases hn : (ms.getD i default).name = initB
 ·simp only [if_pos hn, Bool.and_eq_true, beq_iff_eq, Bool.not_eq_true', beq_eq_false_iff_ne]
  constructor
  ·rintro ⟨⟨x, h1, h2, h3, h4⟩, h5⟩
   exact ⟨x, h1, h2, .inl hn, h5, fun _ => ⟨hfl.resolve_right h4, h3⟩⟩
  ·rintro ⟨x, h1, h2, h3, h4, h5⟩
   have h6 := h5 hn
   exact ⟨⟨x, h1, h2, h6.2, by rw [h6.1]; decide⟩, h4⟩
 ·simp only [if_neg hn, Bool.and_eq_true, beq_iff_eq]
  constructor
  ·rintro ⟨⟨x, h1, h2, h3⟩, h5⟩
   exact ⟨x, h1, h2, .inr h3, h5, fun h => absurd h hn⟩
  ·rintro ⟨x, h1, h2, h3, h4, h5⟩
   exact ⟨⟨x, h1, h2, h3.resolve_left hn⟩, h4⟩
open Classical in
theorem ask3 (pv : Value) {b2 b3 : Nat} (hb2 : w.cell? ⟨b2, 0, none⟩ = some (.func (.func 107) #[] #[])) (hb3 : w.cell? ⟨b3, 0, none⟩ = some (.func (.func 108) #[] #[])) :
  Calls Tryz.prog 135 #[pv, .pointer (some ⟨lb, 0, none⟩), .pointer (some ⟨b2, 0, none⟩), .pointer (some ⟨b3, 0, none⟩)] w (RuleTo w (RuleP ks 3 j)) := by
 have hfj := hf _ (getD_memK hj)
 obtain ⟨v, hv, hc⟩ := (ofMethods (G := G) (fv := fv) (pb := pb) (cl := cl) (sl := fun _ _ => 0) hf).calls w h j hj _ (knownL h h13 hsm hf hj13 hj hk)
 refine (pEach (ofn := 107) (isn := 108) (enters_of Tryz.func107 (by kernel_rfl) rfl) (enters_of Tryz.func108 (by kernel_rfl) rfl) pv hb2 hb3 v _ (fun _ => 0)
  (fun i => decide (∃ x, Meth (nums ((ks.getD j default).meths.getD i default).desc) x ∧ methZ ((ks.getD j default).meths.getD i default) x = true)) hv hfj.meths (hc w (Only.refl _ _)) (fun i hi W => ?_)).mono ?_
 ·have hs := hfj.mnm _ (getD_memM hi)
  refine (pIsMethod _ 0 W hs.1 (by have := hs.2; omega)).mono ?_
  rintro e w' ⟨⟨x, hx, rfl⟩, ho⟩
  refine ⟨?_, ho⟩
  congr 2
  rw [Bool.eq_iff_iff, decide_eq_true_eq]
  exact ⟨fun h => ⟨x, hx, h⟩, fun ⟨y, hy, h⟩ => by rw [Meth.unique hx hy]; exact h⟩
 ·rintro e w' ⟨⟨b, rfl, hb⟩, ho⟩
  refine ⟨⟨b, rfl, hb.trans ?_⟩, ho⟩
  show _ ↔ ∀ i, i < (ks.getD j default).meths.length → MethOK (ks.getD j default).meths i
  exact ⟨fun hh i hi => (meth_ok (hfj.mf _ (getD_memM hi))).1 (hh i hi), fun hh i hi => (meth_ok (hfj.mf _ (getD_memM hi))).2 (hh i hi)⟩
theorem ask4 (hg : GoodK ks) : Calls Tryz.prog 109 #[.pointer (some ⟨pb, 0, none⟩), .pointer (some ⟨lb, 0, none⟩)] w (RuleTo w (RuleP ks 4 j)) := by
 have hfj := hf _ (getD_memK hj)
 obtain ⟨-, e, vp, vf, vm, vom, h1, h2, h3⟩ := hk
 refine (pAgrees h hg h1 h2.pool (k := ks.getD j default) (by rw [e]; rfl) hfj.super h3.mem hfj.meths).mono ?_
 rintro e w' ⟨rfl, ho⟩
 exact ⟨⟨_, rfl, Iff.rfl⟩, ho⟩
end
end Go.Proofs.YtinbelghhfodiaaGreatDoor
namespace Go.Proofs.YtinbelghhfodiaaGreatDoor
set_option maxHeartbeats 16000000
open Lib (hid)
set_option linter.unusedSectionVars false
open Go.RowKit Go.Maps
set_option linter.unusedVariables false
set_option linter.unusedSimpArgs false
def ruleF (a b r : Nat) : Value := match r with
 | 0 => .func (.func 102) #[] #[]
 | 1 => .func (.func 103) #[] #[]
 | 2 => .func (.func 135) #[] #[.pointer (some ⟨a, 0, none⟩), .pointer (some ⟨a + 1, 0, none⟩)]
 | 3 => .func (.func 135) #[] #[.pointer (some ⟨b, 0, none⟩), .pointer (some ⟨b + 1, 0, none⟩)]
 | _ => .func (.func 109) #[] #[]
structure RulesTo (w w' : World) (B a b : Nat) : Prop where
 only : Only (fun _ => False) w w'
 cells : ∀ r, r < 5 → w'.cell? ⟨B, r, none⟩ = some (ruleF a b r)
 a0 : w'.cell? ⟨a, 0, none⟩ = some (.func (.func 105) #[] #[])
 a1 : w'.cell? ⟨a + 1, 0, none⟩ = some (.func (.func 106) #[] #[])
 b0 : w'.cell? ⟨b, 0, none⟩ = some (.func (.func 107) #[] #[])
 b1 : w'.cell? ⟨b + 1, 0, none⟩ = some (.func (.func 108) #[] #[])
set_option maxRecDepth 100000 in
theorem pRules (w : World) : Calls Tryz.prog 67 #[] w fun e w' => ∃ B a b, e = .returned (.slice (some ⟨B, 0, none⟩) 5 5) ∧ RulesTo w w' B a b := by
 have C1 := hid (pForEach 105 106 w)
 have C2 := hid (fun W => pForEach 107 108 W)
 go_enter Tryz.func67, Tryz.ntmps67
 go_wp2_with (fail)
 refine C1.out.mono ?_
 rintro e w1 ⟨rfl, h1, h2, ho1⟩
 obtain ⟨a, ha⟩ : ∃ a, w.heap.size = a := ⟨_, rfl⟩
 rw [ha] at h1 h2 ⊢
 go_wp2_with (fail)
 refine (C2.out w1).mono ?_
 rintro e w2 ⟨rfl, h3, h4, ho2⟩
 obtain ⟨b, hb⟩ : ∃ b, w1.heap.size = b := ⟨_, rfl⟩
 rw [hb] at h3 h4 ⊢
 have ha2 := (Only.refl (fun _ => False) w2).alloc (.cells #[ruleF a b 0, ruleF a b 1, ruleF a b 2, ruleF a b 3, ruleF a b 4] 134)
 have hn := heap_alloc_new w2 (.cells #[ruleF a b 0, ruleF a b 1, ruleF a b 2, ruleF a b 3, ruleF a b 4] 134)
 have HR := hid (show RulesTo w (w2.alloc (.cells #[ruleF a b 0, ruleF a b 1, ruleF a b 2, ruleF a b 3, ruleF a b 4] 134)) w2.heap.size a b from
  ⟨(ho1.trans ho2 (fun _ h _ => h)).trans ha2 (fun _ h _ => h), fun r hr => by
   have : r = 0 ∨ r = 1 ∨ r = 2 ∨ r = 3 ∨ r = 4 := by omega
   rcases this with rfl | rfl | rfl | rfl | rfl <;> exact cell_blk hn _,
   ha2.cell (ho2.cell h1 (fun h => h)) (fun h => h), ha2.cell (ho2.cell h2 (fun h => h)) (fun h => h), ha2.cell h3 (fun h => h), ha2.cell h4 (fun h => h)⟩)
 clear ho1 ho2 h1 h2 h3 h4 ha hb ha2 hn
 go_wp2
 go_ret
 exact ⟨_, a, b, rfl, HR.out⟩
def AskR (G : Nat → Prop) (fv : Nat → Value) (w : World) (pb : Nat) (ks : List KindV) (cl : Nat → ClassV) (r : Nat) (fn : FuncId) (caps : Array Value) : Prop :=
 ∀ W, Only (fun _ => False) w W → ∀ j lb, 13 ≤ j → j < ks.length → ListedAt G W j (ks.getD j default) (cl j) (fv j) lb → Calls Tryz.prog fn (#[.pointer (some ⟨pb, 0, none⟩), .pointer (some ⟨lb, 0, none⟩)] ++ caps) W (RuleTo W (RuleP ks r j))
def EntersR (fn : FuncId) : Prop := ∀ args W, (callFunc fn args).run Tryz.prog W = .ok (.enter fn args) W
section
variable {G : Nat → Prop} {fv : Nat → Value} {w w1 : World} {pb : Nat} {ks : List KindV} {cl : Nat → ClassV} (h : ProgG G fv w pb ks cl (fun _ _ => 0)) (h13 : 13 ≤ ks.length) (hsm : ks.length ≤ 64) (hf : ∀ k ∈ ks, FineK k)
 {B a b : Nat} (hr : RulesTo w w1 B a b)
include h h13 hsm hf hr
theorem ask_all (hgood : (∀ r, r < 4 → ∀ j, 13 ≤ j → j < ks.length → RuleP ks r j) → GoodK ks) {r : Nat} (hr5 : r < 5) (hT : ∀ r', r' < r → ∀ j, 13 ≤ j → j < ks.length → RuleP ks r' j) :
  (∃ fn, ruleF a b r = .func (.func fn) #[] #[] ∧ EntersR fn ∧ AskR G fv w1 pb ks cl r fn #[]) ∨ ∃ fn x, ruleF a b r = .func (.func fn) #[] #[.pointer (some ⟨x, 0, none⟩), .pointer (some ⟨x + 1, 0, none⟩)] ∧ EntersR fn ∧ AskR G fv w1 pb ks cl r fn #[.pointer (some ⟨x, 0, none⟩), .pointer (some ⟨x + 1, 0, none⟩)] := by
 have H : ∀ W, Only (fun _ => False) w1 W → ProgG G fv W pb ks cl (fun _ _ => 0) := fun W hW => h.only (hr.only.trans hW (fun _ h _ => h))
 have : r = 0 ∨ r = 1 ∨ r = 2 ∨ r = 3 ∨ r = 4 := by omega
 rcases this with rfl | rfl | rfl | rfl | rfl
 ·exact .inl ⟨_, rfl, enters_of Tryz.func102 (by kernel_rfl) rfl, fun W hW j lb h1 h2 h3 => ask0 (H W hW) h13 hsm hf h1 h2 h3⟩
 ·exact .inl ⟨_, rfl, enters_of Tryz.func103 (by kernel_rfl) rfl, fun W hW j lb h1 h2 h3 => ask1 (H W hW) h13 hsm hf h1 h2 h3⟩
 ·exact .inr ⟨_, _, rfl, enters_of Tryz.func135 (by kernel_rfl) rfl, fun W hW j lb h1 h2 h3 => ask2 (H W hW) h13 hsm hf h1 h2 h3 _ (hW.cell hr.a0 (fun h => h)) (hW.cell hr.a1 (fun h => h))⟩
 ·exact .inr ⟨_, _, rfl, enters_of Tryz.func135 (by kernel_rfl) rfl, fun W hW j lb h1 h2 h3 => ask3 (H W hW) h13 hsm hf h1 h2 h3 _ (hW.cell hr.b0 (fun h => h)) (hW.cell hr.b1 (fun h => h))⟩
 ·exact .inl ⟨_, rfl, enters_of Tryz.func109 (by kernel_rfl) rfl, fun W hW j lb h1 h2 h3 => ask4 (H W hW) h13 hsm hf h1 h2 h3 (hgood hT)⟩
end
set_option maxRecDepth 100000 in
theorem pIsRight {G : Nat → Prop} {fv : Nat → Value} {w : World} {pb : Nat} {cs : List ClassV} {cl : Nat → ClassV} (h : ProgG G fv w pb (kindsZ cs) cl (fun _ _ => 0)) (h0 : ∀ c ∈ cs, clsZ c = 0) (hl : cs.length ≤ 16) :
  Calls Tryz.prog 31 #[.pointer (some ⟨pb, 0, none⟩)] w (RuleTo w (RightK (kindsZ cs))) := by
 have hkl := kindsZ_len cs
 have hfine := fine_all h0
 have hgood : (∀ r, r < 4 → ∀ j, 13 ≤ j → j < (kindsZ cs).length → RuleP (kindsZ cs) r j) → GoodK (kindsZ cs) := fun hh => rules_good h0 hl (hh 0 (by decide)) (hh 1 (by decide))
 have hall : (∀ r, r < 5 → ∀ j, 13 ≤ j → j < (kindsZ cs).length → RuleP (kindsZ cs) r j) → (mainZ (kindsZ cs)).static = true → RightK (kindsZ cs) := fun hh hm => (rules_right h0).1 ⟨hh 0 (by decide), hh 1 (by decide), hh 2 (by decide), hh 3 (by decide), hh 4 (by decide), hm⟩
 have hback : RightK (kindsZ cs) → (∀ r, r < 5 → ∀ j, 13 ≤ j → j < (kindsZ cs).length → RuleP (kindsZ cs) r j) ∧ (mainZ (kindsZ cs)).static = true := fun hR => by
  have hh := (rules_right h0).2 hR
  refine ⟨fun r hr j h1 h2 => ?_, hh.main⟩
  have : r = 0 ∨ r = 1 ∨ r = 2 ∨ r = 3 ∨ r = 4 := by omega
  rcases this with rfl | rfl | rfl | rfl | rfl
  ·exact hh.r1 j h1 h2
  ·exact hh.r2 j h1 h2
  ·exact hh.r3 j h1 h2
  ·exact hh.r4 j h1 h2
  ·exact hh.r5 j h1 h2
 obtain ⟨ok, hok⟩ : ∃ ok : Prop, ok = RightK (kindsZ cs) := ⟨_, rfl⟩
 rw [← hok] at hall hback ⊢
 have HALL := hid hall
 have HBACK := hid hback
 have HGOOD := hid hgood
 have HFINE := hid hfine
 have hsmall : (kindsZ cs).length ≤ 64 := by omega
 have H13 := hid (show 13 ≤ (kindsZ cs).length by omega)
 generalize kindsZ cs = ks at *
 have HSM := hid hsmall
 have hsz : ((ks.length : Nat) : Int) ≤ 64 := by omega
 have CR := hid (pRules w)
 have H0 := hid h
 clear h h0 hl hkl hok hall hback hgood hfine
 go_enter Tryz.func31, Tryz.ntmps31
 go_wp2_with (fail)
 refine CR.out.mono ?_
 rintro e w1 ⟨B, a, b, rfl, hR⟩
 have HR := hid hR
 have H := hid (H0.out.only hR.only)
 clear hR CR
 go_wp2
 go_loopw [4, 5, 6, 7, 10] (fun _ _ _ _ iv wr => ∃ r : Nat, iv = .int .i64 r ∧ r ≤ 5 ∧ Hid (∀ r', r' < r → ∀ j, 13 ≤ j → j < ks.length → RuleP ks r' j) ∧ Hid (Only (fun _ => False) w1 wr)) (fun _ _ _ _ iv _ => 5 - (intOf iv).toNat)
 case atStart => exact ⟨0, rfl, Nat.zero_le _, hid (fun r h => absurd h (Nat.not_lt_zero r)), hid (Only.refl _ _)⟩
 case round =>
  obtain ⟨r, rfl, hr, HT, HON⟩ := hrel
  obtain ⟨wo, hwo⟩ : ∃ x, x = wr := ⟨_, rfl⟩
  subst hwo
  by_cases hr5 : r < 5
  ·have hrz : (r : Int) < 5 := by omega
   have hr0 : (0 : Int) ≤ (r : Int) := by omega
   have qc := HON.out.cell (HR.out.cells r hr5) (fun h => h)
   have HNR := hid (show ∀ j, 13 ≤ j → j < ks.length → ¬ RuleP ks r j → ¬ ok from fun j h1 h2 h3 h4 => h3 ((HBACK.out h4).1 r hr5 j h1 h2))
   have hask := ask_all H0.out H13.out HSM.out HFINE.out HR.out (fun hh => HGOOD.out hh) hr5 HT.out
   generalize ruleF a b r = fr at *
   obtain ⟨bq, oq, cap, mb, q0, -, e1, e2, -, -⟩ := (H.out.only HON.out).open (by have := H13.out; omega)
   rcases hask with ⟨fn, rfl, hen, hcr⟩ | ⟨fn, x, rfl, hen, hcr⟩
   ·have hask0 := trivial
    have HCR := hid (show ∀ W, Only (fun _ => False) w1 W → ∀ j lb, 13 ≤ j → j < ks.length → ListedAt G W j (ks.getD j default) (cl j) (fv j) lb → Calls Tryz.prog fn #[.pointer (some ⟨pb, 0, none⟩), .pointer (some ⟨lb, 0, none⟩)] W (RuleTo W (RuleP ks r j)) from hcr)
    have hal := (Only.refl (fun _ => False) wo).alloc (.cells #[.func (.func fn) #[] #[]] 134)
    have hnw := cell1 (heap_alloc_new wo (.cells #[.func (.func fn) #[] #[]] 134))
    have qa := hal.cell q0 (fun h => h)
    have hsf : ∀ a W, (store a (.func (.func fn) #[] #[])).run Tryz.prog W = stored Tryz.prog W a (.func (.func fn) #[] #[]) .plain := fun a W => run_store _ W a _ .plain rfl
    have HAL := hid (HON.out.trans hal (fun _ h _ => h))
    have hen2 : ∀ args W, (callFunc fn args).run Tryz.prog W = .ok (.enter fn args) W := hen
    have HNW := hid hnw
    clear hcr hask0 hal hnw hen
    go_wp2
    go_loopw [5, 6, 7, 19] (fun _ _ _ iv wr => ∃ n : Nat, iv = .int .i64 n ∧ n ≤ ks.length ∧ Hid (∀ j, 13 ≤ j → j < n → RuleP ks r j) ∧ Hid (Only (fun _ => False) (wo.alloc (.cells #[.func (.func fn) #[] #[]] 134)) wr)) (fun _ _ _ iv _ => ks.length - (intOf iv).toNat)
    case atStart => exact ⟨0, rfl, Nat.zero_le _, hid (fun j h1 h2 => absurd h2 (Nat.not_lt_zero j)), hid (Only.refl _ _)⟩
    case round =>
     obtain ⟨n, rfl, hn, HQ, HOI⟩ := hrel
     have HOW := hid (HAL.out.trans HOI.out (fun _ h _ => h))
     by_cases hnl : n < ks.length
     ·have hnz : (n : Int) < (ks.length : Int) := by omega
      have hn0 : (0 : Int) ≤ (n : Int) := by omega
      have HI := hid (H.out.only HOW.out)
      by_cases h13 : n < 13
      ·have C1 := hid (pListedNo HI.out H13.out (n : Int) (.inl (by omega)))
       have HQ2 := hid (show ∀ j, 13 ≤ j → j < n + 1 → RuleP ks r j from fun j h1 h2 => by omega)
       clear HI h13
       go_wp2_with (fail)
       refine C1.out.mono ?_
       rintro e w5 ⟨rfl, hww⟩
       subst hww
       go_wp2
       go_roundw
       case rel => exact ⟨n + 1, by go_num, by omega, HQ2, HOI⟩
       case measure => simp [intOf]; omega
      ·obtain ⟨lb, hla, c1⟩ := pListedAt HI.out H13.out n (by omega) hnl
       have C1 := hid c1
       have CR := hid (HCR.out wr HOW.out n lb (by omega) hnl hla)
       have qf := HOI.out.cell HNW.out (fun h => h)
       have h13n := hid (show 13 ≤ n by omega)
       clear HI h13 c1 hla
       go_wp2_with (fail)
       refine C1.out.mono ?_
       rintro e w5 ⟨rfl, hww⟩
       subst hww
       go_wp2_with (fail)
       refine CR.out.mono ?_
       rintro e w6 ⟨⟨bb, rfl, hb⟩, ho6⟩
       have HO6 := hid (HOI.out.trans ho6 (fun _ h _ => h))
       have HOF := hid (HR.out.only.trans (HOW.out.trans ho6 (fun _ h _ => h)) (fun _ h _ => h))
       have HB := hid hb
       clear ho6 hb qf
       cases bb
       ·have HNO := hid (HNR.out n h13n.out hnl (fun hp => absurd (HB.out.2 hp) (by decide)))
        clear HB
        go_wp2
        go_ret
        first | exact ⟨⟨false, rfl, fun h => absurd h (by decide), fun h => absurd h HNO.out⟩, HOF.out⟩ | exact ⟨.inl ⟨rfl, HNO.out⟩, HOF.out⟩
       ·have HQ2 := hid (show ∀ j, 13 ≤ j → j < n + 1 → RuleP ks r j from fun j h1 h2 => by
         by_cases e : j = n
         ·subst e; exact HB.out.1 rfl
         ·exact HQ.out j h1 (by omega))
        clear HB
        go_wp2
        go_roundw
        case rel => exact ⟨n + 1, by go_num, by omega, HQ2, HO6⟩
        case measure => simp [intOf]; omega
     ·obtain rfl : n = ks.length := by omega
      have HT2 := hid (show ∀ r', r' < r + 1 → ∀ j, 13 ≤ j → j < ks.length → RuleP ks r' j from fun r' h1 j h2 h3 => by
       by_cases e : r' = r
       ·subst e; exact HQ.out j h2 h3
       ·exact HT.out r' (by omega) j h2 h3)
      clear hnl hn
      go_wp2
      go_roundw
      case rel => exact ⟨r + 1, by go_num, by omega, HT2, HOW⟩
      case measure => simp [intOf]; omega
   ·have hask0 := trivial
    have HCR := hid (show ∀ W, Only (fun _ => False) w1 W → ∀ j lb, 13 ≤ j → j < ks.length → ListedAt G W j (ks.getD j default) (cl j) (fv j) lb → Calls Tryz.prog fn #[.pointer (some ⟨pb, 0, none⟩), .pointer (some ⟨lb, 0, none⟩), .pointer (some ⟨x, 0, none⟩), .pointer (some ⟨x + 1, 0, none⟩)] W (RuleTo W (RuleP ks r j)) from hcr)
    have hal := (Only.refl (fun _ => False) wo).alloc (.cells #[.func (.func fn) #[] #[.pointer (some ⟨x, 0, none⟩), .pointer (some ⟨x + 1, 0, none⟩)]] 134)
    have hnw := cell1 (heap_alloc_new wo (.cells #[.func (.func fn) #[] #[.pointer (some ⟨x, 0, none⟩), .pointer (some ⟨x + 1, 0, none⟩)]] 134))
    have qa := hal.cell q0 (fun h => h)
    have hsf : ∀ a W, (store a (.func (.func fn) #[] #[.pointer (some ⟨x, 0, none⟩), .pointer (some ⟨x + 1, 0, none⟩)])).run Tryz.prog W = stored Tryz.prog W a (.func (.func fn) #[] #[.pointer (some ⟨x, 0, none⟩), .pointer (some ⟨x + 1, 0, none⟩)]) .plain := fun a W => run_store _ W a _ .plain rfl
    have HAL := hid (HON.out.trans hal (fun _ h _ => h))
    have hen2 : ∀ args W, (callFunc fn args).run Tryz.prog W = .ok (.enter fn args) W := hen
    have HNW := hid hnw
    clear hcr hask0 hal hnw hen
    go_wp2
    go_loopw [5, 6, 7, 19] (fun _ _ _ iv wr => ∃ n : Nat, iv = .int .i64 n ∧ n ≤ ks.length ∧ Hid (∀ j, 13 ≤ j → j < n → RuleP ks r j) ∧ Hid (Only (fun _ => False) (wo.alloc (.cells #[.func (.func fn) #[] #[.pointer (some ⟨x, 0, none⟩), .pointer (some ⟨x + 1, 0, none⟩)]] 134)) wr)) (fun _ _ _ iv _ => ks.length - (intOf iv).toNat)
    case atStart => exact ⟨0, rfl, Nat.zero_le _, hid (fun j h1 h2 => absurd h2 (Nat.not_lt_zero j)), hid (Only.refl _ _)⟩
    case round =>
     obtain ⟨n, rfl, hn, HQ, HOI⟩ := hrel
     have HOW := hid (HAL.out.trans HOI.out (fun _ h _ => h))
     by_cases hnl : n < ks.length
     ·have hnz : (n : Int) < (ks.length : Int) := by omega
      have hn0 : (0 : Int) ≤ (n : Int) := by omega
      have HI := hid (H.out.only HOW.out)
      by_cases h13 : n < 13
      ·have C1 := hid (pListedNo HI.out H13.out (n : Int) (.inl (by omega)))
       have HQ2 := hid (show ∀ j, 13 ≤ j → j < n + 1 → RuleP ks r j from fun j h1 h2 => by omega)
       clear HI h13
       go_wp2_with (fail)
       refine C1.out.mono ?_
       rintro e w5 ⟨rfl, hww⟩
       subst hww
       go_wp2
       go_roundw
       case rel => exact ⟨n + 1, by go_num, by omega, HQ2, HOI⟩
       case measure => simp [intOf]; omega
      ·obtain ⟨lb, hla, c1⟩ := pListedAt HI.out H13.out n (by omega) hnl
       have C1 := hid c1
       have CR := hid (HCR.out wr HOW.out n lb (by omega) hnl hla)
       have qf := HOI.out.cell HNW.out (fun h => h)
       have h13n := hid (show 13 ≤ n by omega)
       clear HI h13 c1 hla
       go_wp2_with (fail)
       refine C1.out.mono ?_
       rintro e w5 ⟨rfl, hww⟩
       subst hww
       go_wp2_with (fail)
       refine CR.out.mono ?_
       rintro e w6 ⟨⟨bb, rfl, hb⟩, ho6⟩
       have HO6 := hid (HOI.out.trans ho6 (fun _ h _ => h))
       have HOF := hid (HR.out.only.trans (HOW.out.trans ho6 (fun _ h _ => h)) (fun _ h _ => h))
       have HB := hid hb
       clear ho6 hb qf
       cases bb
       ·have HNO := hid (HNR.out n h13n.out hnl (fun hp => absurd (HB.out.2 hp) (by decide)))
        clear HB
        go_wp2
        go_ret
        first | exact ⟨⟨false, rfl, fun h => absurd h (by decide), fun h => absurd h HNO.out⟩, HOF.out⟩ | exact ⟨.inl ⟨rfl, HNO.out⟩, HOF.out⟩
       ·have HQ2 := hid (show ∀ j, 13 ≤ j → j < n + 1 → RuleP ks r j from fun j h1 h2 => by
         by_cases e : j = n
         ·subst e; exact HB.out.1 rfl
         ·exact HQ.out j h1 (by omega))
        clear HB
        go_wp2
        go_roundw
        case rel => exact ⟨n + 1, by go_num, by omega, HQ2, HO6⟩
        case measure => simp [intOf]; omega
     ·obtain rfl : n = ks.length := by omega
      have HT2 := hid (show ∀ r', r' < r + 1 → ∀ j, 13 ≤ j → j < ks.length → RuleP ks r' j from fun r' h1 j h2 h3 => by
       by_cases e : r' = r
       ·subst e; exact HQ.out j h2 h3
       ·exact HT.out r' (by omega) j h2 h3)
      clear hnl hn
      go_wp2
      go_roundw
      case rel => exact ⟨r + 1, by go_num, by omega, HT2, HOW⟩
      case measure => simp [intOf]; omega
  ·obtain rfl : r = 5 := by omega
   have HM := hid (HGOOD.out (fun r hr => HT.out r (by omega)))
   have CM := hid (pMain (H.out.only HON.out) HM.out)
   have HOF := hid (HR.out.only.trans HON.out (fun _ h _ => h))
   have HYES := hid (HALL.out HT.out)
   have HNO := hid (show ok → (mainZ ks).static = true from fun h => (HBACK.out h).2)
   generalize mainZ ks = mz at *
   clear hr5 hr
   go_wp2_with (fail)
   unfold valM at CM
   refine CM.out.mono ?_
   rintro e w5 ⟨rfl, ho5⟩
   have HO5 := hid (HOF.out.trans ho5 (fun _ h _ => h))
   clear ho5
   have hfd : ∀ W, (Instr.field 138 (.agg #[.int .i64 mz.cls, .int .i64 mz.place, .string mz.desc, .bool mz.static, .int .i64 mz.slot]) 3).run Tryz.prog W = .ok (.bool mz.static) W := fun W => by kernel_rfl
   go_wp2
   go_ret
   first | exact ⟨⟨_, rfl, HYES.out, HNO.out⟩, HO5.out⟩ | trace_state
end Go.Proofs.YtinbelghhfodiaaGreatDoor
