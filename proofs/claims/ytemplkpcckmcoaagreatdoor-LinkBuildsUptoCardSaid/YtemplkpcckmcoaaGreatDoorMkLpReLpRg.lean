import Derived.Test.YtemplkpcckmcoaaGreatDoorMkKndVLpRd
import Derived.Test.YtemplkpcckmcoaaGreatDoorMkKndLLpA
import Derived.Test.YtemplkpcckmcoaaGreatDoorMkLpJLpL
import Derived.Test.YtemplkpcckmcoaaGreatDoorMkClsNmLpY
import Derived.Test.YtemplkpcckmcoaaGreatDoorMkLpTaIxC
namespace Go.Proofs.YtemplkpcckmcoaaGreatDoor
set_option maxHeartbeats 4000000
open Lib (hid)
open Go.RowKit Go.Maps
set_option linter.unusedVariables false
set_option linter.unusedSimpArgs false
attribute [local go_sem] Oper.semAt_some
theorem alloc_sz (w : World) (o : Obj) : (w.alloc o).heap.size = w.heap.size + 1 := by simp
theorem info1_rule : (Tryz.prog.info? 100).map (·.size) = some 1 := by kernel_rfl
theorem rule_result {fn : Func} {p : Tmp} (hr : fn.results = #[.cell p 100]) {w : World} {b : Nat} {f : Value} {tmps : Array Value} (h : w.heap[b]? = some (.cells #[f] 100 (0, 0))) (ht : tmps.getD p undef = .pointer (some ⟨b, 0, none⟩)) :
  (results fn tmps).run Tryz.prog w = .ok (.agg #[f]) w := by
 have hp' : tmps[p]?.getD undef = .pointer (some ⟨b, 0, none⟩) := by simpa using ht
 have hL := run_loadVar_row w b 100 100 _ (0, 0) _ h Tryz.underlying100 rfl info1_rule
 simp only [results, hr]
 simp [Sem.run_bind, Result.andThen, hp', asAddr, hL]
set_option maxRecDepth 100000 in
theorem pForEach (ofn isn : FuncId) (w : World) :
  Calls Tryz.prog 78 #[.func (.func ofn) #[] #[], .func (.func isn) #[] #[]] w fun e w' => e = .returned (.agg #[.func (.func 109) #[] #[.pointer (some ⟨w.heap.size, 0, none⟩), .pointer (some ⟨w.heap.size + 1, 0, none⟩)]]) ∧
   w'.cell? ⟨w.heap.size, 0, none⟩ = some (.func (.func ofn) #[] #[]) ∧ w'.cell? ⟨w.heap.size + 1, 0, none⟩ = some (.func (.func isn) #[] #[]) ∧ Only (fun _ => False) w w' := by
 have hmf : ∀ (fn : Fn) (first cap : Array Value) (w : World), (Instr.makeFunc fn first cap).run Tryz.prog w = .ok (.func fn first cap) w := fun _ _ _ _ => rfl
 have hsf : ∀ a n (f c : Array Value) W, (store a (.func (.func n) f c)).run Tryz.prog W = stored Tryz.prog W a (.func (.func n) f c) .plain := fun a n f c W => run_store _ W a _ .plain rfl
 go_enter Tryz.func78, Tryz.ntmps78
 have ho := (((Only.refl (fun _ => False) w).alloc (.cells #[.func (.func ofn) #[] #[]] 142)).alloc (.cells #[.func (.func isn) #[] #[]] 143)).alloc (.cells #[.func (.func 109) #[] #[.pointer (some ⟨w.heap.size, 0, none⟩), .pointer (some ⟨w.heap.size + 1, 0, none⟩)]] 100)
 have h1 := heap_alloc_new w (.cells #[.func (.func ofn) #[] #[]] 142)
 have h2 := heap_alloc_new (w.alloc (.cells #[.func (.func ofn) #[] #[]] 142)) (.cells #[.func (.func isn) #[] #[]] 143)
 have h3 := heap_alloc_new ((w.alloc (.cells #[.func (.func ofn) #[] #[]] 142)).alloc (.cells #[.func (.func isn) #[] #[]] 143)) (.cells #[.func (.func 109) #[] #[.pointer (some ⟨w.heap.size, 0, none⟩), .pointer (some ⟨w.heap.size + 1, 0, none⟩)]] 100)
 rw [alloc_sz, alloc_sz] at h3
 rw [alloc_sz] at h2
 have a1 := ((((Only.refl (fun _ => False) _).alloc (.cells #[.func (.func isn) #[] #[]] 143)).alloc (.cells #[.func (.func 109) #[] #[.pointer (some ⟨w.heap.size, 0, none⟩), .pointer (some ⟨w.heap.size + 1, 0, none⟩)]] 100)).heap h1 (fun h => h))
 have a2 := ((Only.refl (fun _ => False) _).alloc (.cells #[.func (.func 109) #[] #[.pointer (some ⟨w.heap.size, 0, none⟩), .pointer (some ⟨w.heap.size + 1, 0, none⟩)]] 100)).heap h2 (fun h => h)
 have HO := hid ho
 have H1 := hid a1
 have H2 := hid a2
 have H3 := hid h3
 clear ho h1 h2 h3 a1 a2
 go_wp2
 refine bodyPost_ret (rule_result (b := w.heap.size + 1 + 1) Tryz.results78 ?_ rfl) rfl ⟨rfl, ?_, ?_, ?_⟩
 ·exact H3.out
 ·exact cell_blk H1.out 0
 ·exact cell_blk H2.out 0
 ·exact HO.out
end Go.Proofs.YtemplkpcckmcoaaGreatDoor
namespace Go.Proofs.YtemplkpcckmcoaaGreatDoor
set_option maxHeartbeats 4000000
open Lib (hid)
open Go.RowKit
set_option linter.unusedVariables false
set_option linter.unusedSimpArgs false
def NamesR (l : List PairV) : Prop := ∀ p ∈ l, p.name.size ≤ maxLen ∧ p.super.size ≤ maxLen
def superV (l : List PairV) (x : ByteArray) : ByteArray := if pairOf l x < 0 then ⟨#[]⟩ else (l.getD (pairOf l x).toNat default).super
set_option maxRecDepth 100000 in
theorem progAsked (v pv : Value) (l : List PairV) (x : ByteArray) (b3 b1 : Nat) (w w0 : World) (hp : Pairs w v l) (h1 : w.cell? ⟨b1, 0, none⟩ = some v) (h3 : w.cell? ⟨b3, 0, none⟩ = some pv) (hpv : PlaceV w0 l pv) (hw : Only (fun _ => False) w0 w) (hx : x.size ≤ maxLen) :
  Calls Tryz.prog 147 #[.string x, .pointer (some ⟨b3, 0, none⟩), .pointer (some ⟨b1, 0, none⟩)] w fun e w' => e = .returned (.tuple #[.string (superV l x), .bool (!decide (pairOf l x < 0))]) ∧ Only (fun _ => False) w w' := by
 obtain ⟨n, b, rfl, hen, hcall⟩ := hpv
 have c1 := hcall w x hw hx
 have C1 := hid c1
 have HP := hid hp
 have H1 := hid h1
 clear hcall c1 h1 hw
 rcases pairOf_cases l x with hq | ⟨q, hql, hq⟩
 ·have hs : superV l x = ⟨#[]⟩ := by unfold superV; rw [hq]; rfl
  rw [hs]
  rw [hq] at C1 ⊢
  clear hs hq hp
  go_enter Tryz.func147, Tryz.ntmps147
  go_wp2_with (fail)
  refine C1.out.mono ?_
  rintro e w1 ⟨rfl, ho1⟩
  have HO1 := hid ho1
  clear ho1 C1
  go_wp2
  go_ret2
  exact ⟨rfl, HO1.out⟩
 ·have hs : superV l x = (l.getD q default).super := by unfold superV; rw [hq, if_neg (by omega)]; rfl
  rw [hs]
  rw [hq] at C1 ⊢
  have hd : decide ((q : Int) < 0) = false := by simp
  rw [hd]
  obtain ⟨p, hpe⟩ : ∃ p, l.getD q default = p := ⟨_, rfl⟩
  rw [hpe]
  have HPE := hid hpe
  obtain ⟨ao, cap, rfl, p1, p2, p3, -⟩ := id hp
  clear hs hq hp p3 hd hpe
  have hqz : (q : Int) < (l.length : Int) := by omega
  have hq0 : (0 : Int) ≤ (q : Int) := by omega
  have hq1 : ¬ (q : Int) < 0 := by omega
  go_enter Tryz.func147, Tryz.ntmps147
  go_wp2_with (fail)
  refine C1.out.mono ?_
  rintro e w1 ⟨rfl, ho1⟩
  obtain ⟨g, o, rfl, y⟩ := Sl.at (HP.out.only ho1) hql
  rw [HPE.out] at y
  obtain ⟨y0, y1⟩ := y
  have h1' := ho1.cell H1.out (fun h => h)
  have HO1 := hid ho1
  clear ho1 C1 H1
  go_wp2
  go_ret2
  exact ⟨rfl, HO1.out⟩
def AskV (w : World) (l : List PairV) (av : Value) : Prop := ∃ b3 b1, av = .func (.func 147) #[] #[.pointer (some ⟨b3, 0, none⟩), .pointer (some ⟨b1, 0, none⟩)] ∧
 ∀ W x, Only (fun _ => False) w W → x.size ≤ maxLen → Calls Tryz.prog 147 #[.string x, .pointer (some ⟨b3, 0, none⟩), .pointer (some ⟨b1, 0, none⟩)] W fun e w' => e = .returned (.tuple #[.string (superV l x), .bool (!decide (pairOf l x < 0))]) ∧ Only (fun _ => False) W w'
theorem store_func8 (n b : Nat) (a : Addr) (w : World) : (store a (.func (.func n) #[] #[.pointer (some ⟨b, 0, none⟩)])).run Tryz.prog w = stored Tryz.prog w a (.func (.func n) #[] #[.pointer (some ⟨b, 0, none⟩)]) .plain := run_store _ w a _ .plain rfl
set_option maxRecDepth 100000 in
theorem progAsking (v : Value) (l : List PairV) (w : World) (hp : Pairs w v l) (hlen : l.length ≤ 4611686018427387904) (hsz : NamesR l) :
  Calls Tryz.prog 126 #[v] w fun e w' => ∃ av, e = .returned av ∧ AskV w' l av ∧ Only (fun _ => False) w w' := by
 obtain ⟨ao, cap, rfl, p1, p2, p3, -⟩ := id hp
 have ho1 := (Only.refl (fun _ => False) w).alloc (.cells #[.slice ao l.length cap] 56)
 have hb1 := heap_alloc_new w (.cells #[.slice ao l.length cap] 56)
 have c1 := progPlacing _ l _ (hp.only ho1) hlen (fun p h => (hsz p h).1)
 have C1 := hid c1
 have HO := hid ho1
 have HB := hid hb1
 have HP := hid hp
 clear p3 hb1 ho1 c1 hp
 go_enter Tryz.func126, Tryz.ntmps126
 go_wp2_with (fail)
 refine C1.out.mono ?_
 rintro e w1 ⟨pv, rfl, hpv, ho1⟩
 have hal := (Only.refl (fun _ => False) w1).alloc (.cells #[pv] 50)
 have hn := heap_alloc_new w1 (.cells #[pv] 50)
 have HPV := hid (hpv.only hal)
 have HO1 := hid ((HO.out.trans ho1 (fun _ h _ => h)).trans hal (fun _ h _ => h))
 have HC1 := hid (cell_blk (hal.heap (ho1.heap HB.out (fun h => h)) (fun h => h)) 0)
 have HC3 := hid (cell_blk hn 0)
 obtain ⟨n, b, hpve, -⟩ := hpv
 subst hpve
 have hsf := fun a w => store_func8 n b a w
 clear hal hn ho1 C1
 go_wp2
 go_ret
 exact ⟨_, rfl, ⟨_, _, rfl, fun W x hW hx => progAsked _ _ l x _ _ W _ (HP.out.only (HO1.out.trans hW (fun _ h _ => h))) (hW.cell HC1.out (fun h => h)) (hW.cell HC3.out (fun h => h)) HPV.out hW hx⟩, HO1.out⟩
set_option maxRecDepth 100000 in
theorem progBelow (v : Value) (l : List PairV) (a b : ByteArray) (w : World) (hp : Pairs w v l) (hlen : l.length ≤ 4611686018427387904) (hsz : NamesR l) (ha : a.size ≤ maxLen) :
  Calls Tryz.prog 108 #[v, .string a, .string b] w fun e w' => e = .returned (.bool (belowZ l a b)) ∧ Only (fun _ => False) w w' := by
 obtain ⟨ao, cap, rfl, p1, p2, p3, -⟩ := id hp
 have c1 := progAsking _ l w hp hlen hsz
 have C1 := hid c1
 have HS := hid hsz
 have HA := hid ha
 clear p3 hp c1 hsz ha
 by_cases hab : a = b
 ·subst hab
  have HR := hid (show belowZ l a a = true from belowN_same l a _)
  go_enter Tryz.func108, Tryz.ntmps108
  go_wp2
  go_ret
  rw [HR.out]
  exact ⟨rfl, Only.refl _ _⟩
 ·obtain ⟨e1, e2⟩ := toList_beq hab
  have HAB := hid hab
  clear hab
  go_enter Tryz.func108, Tryz.ntmps108
  go_wp2_with (fail)
  refine C1.out.mono ?_
  rintro e w1 ⟨av, rfl, ⟨b3, b1, rfl, hav⟩, ho1⟩
  have HAV := hid hav
  have HO1 := hid ho1
  have hen : ∀ args w, (callFunc 147 args).run Tryz.prog w = .ok (.enter 147 args) w := enters_of Tryz.func147 (by kernel_rfl) rfl
  clear hav ho1 C1 e1 e2
  go_wp2
  go_loopw [1, 17] (fun av iv wr => ∃ (c : ByteArray) (k : Nat), av = .string c ∧ iv = .int .i64 k ∧ k ≤ l.length ∧ Hid (c ≠ b) ∧ Hid (c.size ≤ maxLen) ∧ Hid (belowZ l a b = belowN l b (l.length - k) c) ∧ Hid (Only (fun _ => False) w1 wr)) (fun _ iv _ => l.length - (intOf iv).toNat)
  case atStart => exact ⟨a, 0, rfl, rfl, Nat.zero_le _, HAB, HA, hid rfl, hid (Only.refl _ _)⟩
  case round =>
   obtain ⟨c, k, rfl, rfl, hk, HCB, HC, HB, HON⟩ := hrel
   by_cases hlt : k < l.length
   ·have hkz : (k : Int) < (l.length : Int) := by omega
    have c2 := HAV.out wr c HON.out HC.out
    rcases pairOf_cases l c with hq | ⟨q, hql, hq⟩
    ·have HR := hid (show belowZ l a b = false by rw [HB.out, belowN_none HCB.out hq])
     have hs : superV l c = ⟨#[]⟩ := by unfold superV; rw [hq]; rfl
     rw [hs, hq] at c2
     have C2 := hid c2
     clear c2 hq hs
     go_wp2_with (fail)
     refine C2.out.mono ?_
     rintro e w2 ⟨rfl, ho2⟩
     have HO2 := hid ((HO1.out.trans HON.out (fun _ h _ => h)).trans ho2 (fun _ h _ => h))
     clear ho2 C2
     go_wp2
     go_ret
     rw [HR.out]
     exact ⟨rfl, HO2.out⟩
    ·have hs : superV l c = (l.getD q default).super := by unfold superV; rw [hq, if_neg (by omega)]; rfl
     have hst : belowZ l a b = belowN l b (l.length - (k + 1)) (l.getD q default).super := by
      rw [HB.out, show l.length - k = (l.length - (k + 1)) + 1 by omega, belowN_step HCB.out hq]
     have HSR := hid (HS.out _ (getD_mem hql)).2
     rw [hs, hq, show decide ((q : Int) < 0) = false by simp, Bool.not_false] at c2
     have HST := hid hst
     have C2 := hid c2
     clear c2 hq hs hst
     generalize (l.getD q default).super = sp at *
     by_cases hsb : sp = b
     ·subst hsb
      have HR := hid (show belowZ l a sp = true by rw [HST.out, belowN_same])
      go_wp2_with (fail)
      refine C2.out.mono ?_
      rintro e w2 ⟨rfl, ho2⟩
      have HO2 := hid ((HO1.out.trans HON.out (fun _ h _ => h)).trans ho2 (fun _ h _ => h))
      clear ho2 C2
      go_wp2
      go_ret
      rw [HR.out]
      exact ⟨rfl, HO2.out⟩
     ·obtain ⟨n1, n2⟩ := toList_beq hsb
      have HSB := hid hsb
      clear hsb
      go_wp2_with (fail)
      refine C2.out.mono ?_
      rintro e w2 ⟨rfl, ho2⟩
      have HO2 := hid (HON.out.trans ho2 (fun _ h _ => h))
      clear ho2 C2
      go_wp2
      go_roundw
      case rel => exact ⟨sp, k + 1, rfl, by go_num, by omega, HSB, HSR, HST, HO2⟩
      case measure => simp [intOf]; omega
   ·obtain rfl : k = l.length := by omega
    have HR := hid (show belowZ l a b = false by rw [HB.out, Nat.sub_self, belowN_last HCB.out])
    have HO2 := hid (HO1.out.trans HON.out (fun _ h _ => h))
    clear hlt hk
    go_wp2
    go_ret
    rw [HR.out]
    exact ⟨rfl, HO2.out⟩
end Go.Proofs.YtemplkpcckmcoaaGreatDoor
namespace Go.Proofs.YtemplkpcckmcoaaGreatDoor
set_option maxHeartbeats 4000000
open Lib (hid)
open Go.RowKit Go.Maps
set_option linter.unusedVariables false
set_option linter.unusedSimpArgs false
def leadsZ (ks : List KindV) (k : KindV) : Bool := decide (k.super ≠ sysB) && belowZ (treeZ ks) k.name objB
section
variable {G : Nat → Prop} {fv : Nat → Value} {w : World} {pb : Nat} {ks : List KindV} {cl : Nat → ClassV} {sl : Nat → Nat → Int} (h : ProgG G fv w pb ks cl sl) (hpos : 0 < ks.length) (hsm : ks.length ≤ 64) (hnr : NamesR (treeZ ks))
 {lb i : Nat} {c : ClassV} {vp vf vm vof vom : Value} (hl : w.heap[lb]? = some (listedO i c vp vf vm vof vom)) (hp : Pool w vp c.pool) {k : KindV} (hkn : k.name = (classZ c.pool c.this).1) (hks : k.super = (classZ c.pool c.super).1) (hna : k.name.size ≤ maxLen)
include h hpos hsm hnr hl hp hkn hks hna
set_option maxRecDepth 100000 in
theorem pLeads : Calls Tryz.prog 77 #[.pointer (some ⟨pb, 0, none⟩), .pointer (some ⟨lb, 0, none⟩)] w fun e w' => e = .returned (.bool (leadsZ ks k)) ∧ Only (fun _ => False) w w' := by
 have C1 := hid (lSuper hl hp)
 have C2 := hid (fun (W : World) (ho : Only (fun _ => False) w W) => pTree (h.only ho) hpos hsm)
 have C3 := hid (fun (W : World) (ho : Only (fun _ => False) w W) => lName (ho.heap hl (fun h => h)) (hp.only ho (fun _ _ h => h)))
 have C4 := hid (fun (v : Value) (W : World) (hv : Pairs W v (treeZ ks)) => progBelow v (treeZ ks) k.name objB W hv (by rw [treeZ_len]; omega) hnr hna)
 have HZ : Hid (leadsZ ks k = (decide (k.super ≠ sysB) && belowZ (treeZ ks) k.name objB)) := hid rfl
 rw [← hkn] at C3
 rw [← hks] at C1
 generalize leadsZ ks k = z at *
 obtain ⟨nm, hnm⟩ : ∃ nm, k.name = nm := ⟨_, rfl⟩
 obtain ⟨su, hsu⟩ : ∃ su, k.super = su := ⟨_, rfl⟩
 rw [hnm] at C3 C4 HZ
 rw [hsu] at C1 HZ
 generalize treeZ ks = tr at *
 clear h hpos hsm hnr hl hp hkn hks hna hnm hsu
 unfold objB at C4 HZ
 generalize belowZ tr nm ⟨#[79, 98, 106, 101, 99, 116]⟩ = bz at *
 go_enter Tryz.func77, Tryz.ntmps77
 by_cases hs : su = sysB
 ·have HE : Hid (z = false) := hid (by rw [HZ.out]; simp [hs])
  unfold sysB at hs
  subst hs
  have hli := lit_sys
  clear HZ
  go_wp2_with (go_at_call 107; refine C1.out.mono ?_; rintro e w1 ⟨rfl, ho1⟩)
  go_ret
  exact ⟨by rw [HE.out]; rfl, ho1⟩
 ·have HE : Hid (z = bz) := hid (by rw [HZ.out]; simp [hs])
  obtain ⟨n1, n2⟩ := toList_beq hs
  unfold sysB at n1 n2
  rw [lit_sys] at n1 n2
  clear HZ hs
  go_wp2_with (first
   | (go_at_call 107; refine C1.out.mono ?_; rintro e w1 ⟨rfl, ho1⟩)
   | (go_at_call 21; refine (C2.out _ ho1).mono ?_; rintro e w2 ⟨r, rfl, hr, ho2⟩)
   | (go_at_call 106; refine (C3.out _ (ho1.trans ho2 (fun _ h _ => h))).mono ?_; rintro e w3 ⟨rfl, ho3⟩)
   | (go_at_call 108; refine (C4.out _ _ (hr.only ho3)).mono ?_; rintro e w4 ⟨rfl, ho4⟩))
  go_ret
  exact ⟨by rw [HE.out]; rfl, ((ho1.trans ho2 (fun _ h _ => h)).trans ho3 (fun _ h _ => h)).trans ho4 (fun _ h _ => h)⟩
end
end Go.Proofs.YtemplkpcckmcoaaGreatDoor
namespace Go.Proofs.YtemplkpcckmcoaaGreatDoor
set_option maxHeartbeats 4000000
open Lib (hid)
open Go.RowKit
set_option linter.unusedVariables false
set_option linter.unusedSimpArgs false
def agreeO (o : Option MemV) (m : MethN) : Bool := match o with | some a => a.static == (m.flags == 8) | none => true
def agreeM (ks : List KindV) (s : ByteArray) (m : MethN) : Bool := agreeO (lookZ ks s m.name m.desc) m
def agreesZ (ks : List KindV) (k : KindV) : Bool := k.meths.all (agreeM ks k.super)
structure RuleK (ks : List KindV) : Prop where
 r1 : ∀ j, 13 ≤ j → j < ks.length → plainN (nums (ks.getD j default).name) = true ∧ findZ ks (ks.getD j default).name = (j : Int)
 r2 : ∀ j, 13 ≤ j → j < ks.length → leadsZ ks (ks.getD j default) = true
 r3 : ∀ j, 13 ≤ j → j < ks.length → ∀ i, i < (ks.getD j default).fields.length → FieldOK (ks.getD j default).fields i
 r4 : ∀ j, 13 ≤ j → j < ks.length → ∀ i, i < (ks.getD j default).meths.length → MethOK (ks.getD j default).meths i
 r5 : ∀ j, 13 ≤ j → j < ks.length → agreesZ ks (ks.getD j default) = true
 main : (mainZ ks).static = true
theorem getD_memK {ks : List KindV} {j : Nat} (h : j < ks.length) : ks.getD j default ∈ ks := by
 rw [show ks.getD j default = ks[j] by simp [List.getD, h]]
 exact List.getElem_mem h
theorem builtK_supers : ∀ j, j < 13 → ¬ (builtK.getD j default).super = sysB := by decide
section
variable {cs : List ClassV} (hon : NamesOnce (kindsZ cs))
include hon
theorem pair_name {j : Nat} (hj : j < (kindsZ cs).length) : pairOf (treeZ (kindsZ cs)) ((kindsZ cs).getD j default).name = (j : Int) := hon j hj
theorem name_obj {j : Nat} (hj : j < (kindsZ cs).length) (h0 : j ≠ 0) : ((kindsZ cs).getD j default).name ≠ objB := fun e => by
 have h1 := hon j hj
 rw [e, find_obj] at h1
 omega
theorem below_tops (hsys : ∀ j, j < (kindsZ cs).length → ¬ ((kindsZ cs).getD j default).super = sysB) : ∀ (n j : Nat), j < (kindsZ cs).length → belowN (treeZ (kindsZ cs)) objB n ((kindsZ cs).getD j default).name = true → topsF (kindsZ cs) (n + 1) (j : Int) = true
 | n, j, hj, hb => by
  by_cases h0 : j = 0
  ·subst h0
   rw [topsF, if_pos (show ((0 : Nat) : Int) = 0 from rfl)]
  have hne := name_obj hon hj h0
  cases n with
  | zero => rw [belowN_last hne] at hb; cases hb
  | succ n =>
   rw [belowN_step hne (pair_name hon hj), treeZ_at hj] at hb
   have hs : superZ (kindsZ cs) (j : Int) = findZ (kindsZ cs) ((kindsZ cs).getD j default).super := super_list (by omega) hj
   rw [topsF, if_neg (by omega), hs]
   rcases findZ_cases (kindsZ cs) ((kindsZ cs).getD j default).super with e | ⟨i, hi, e⟩
   ·have hso : ((kindsZ cs).getD j default).super ≠ objB := fun h => by rw [h, find_obj] at e; omega
    have hb' : belowN (treeZ (kindsZ cs)) objB n ((kindsZ cs).getD j default).super = true := hb
    rw [belowN_none hso e] at hb'
    cases hb'
   ·have hh := find_hit e
    rw [e, if_neg (by omega), Int.toNat_natCast, hh.2, if_neg (hsys j hj)]
    exact below_tops hsys n i hi (by rw [hh.2]; exact hb)
theorem tops_below : ∀ (n j : Nat), j < (kindsZ cs).length → topsF (kindsZ cs) (n + 1) (j : Int) = true → belowN (treeZ (kindsZ cs)) objB n ((kindsZ cs).getD j default).name = true
 | n, j, hj, ht => by
  by_cases h0 : j = 0
  ·subst h0
   rw [show ((kindsZ cs).getD 0 default).name = objB from rfl]
   exact belowN_same _ _ _
  have hne := name_obj hon hj h0
  have hs : superZ (kindsZ cs) (j : Int) = findZ (kindsZ cs) ((kindsZ cs).getD j default).super := super_list (by omega) hj
  rw [topsF, if_neg (by omega), hs] at ht
  rcases findZ_cases (kindsZ cs) ((kindsZ cs).getD j default).super with e | ⟨i, hi, e⟩
  ·rw [e, if_pos (by decide)] at ht; cases ht
  ·have hh := find_hit e
   rw [e, if_neg (by omega), Int.toNat_natCast] at ht
   split at ht
   ·cases ht
   ·cases n with
    | zero => cases ht
    | succ n =>
     rw [belowN_step hne (pair_name hon hj), treeZ_at hj]
     show belowN (treeZ (kindsZ cs)) objB n ((kindsZ cs).getD j default).super = true
     rw [← hh.2]
     exact tops_below n i hi ht
omit hon in
theorem tops_sys {j : Nat} (h13 : 13 ≤ j) (hj : j < (kindsZ cs).length) (ht : topsZ (kindsZ cs) (j : Int) = true) : ¬ ((kindsZ cs).getD j default).super = sysB := fun he => by
 have hs : superZ (kindsZ cs) (j : Int) = findZ (kindsZ cs) ((kindsZ cs).getD j default).super := super_list (by omega) hj
 unfold topsZ at ht
 rw [topsF, if_neg (by omega), hs] at ht
 rcases findZ_cases (kindsZ cs) ((kindsZ cs).getD j default).super with e | ⟨i, hi, e⟩
 ·rw [e, if_pos (by decide)] at ht; cases ht
 ·have hh := find_hit e
  rw [e, if_neg (by omega), Int.toNat_natCast, hh.2, if_pos he] at ht
  cases ht
theorem leads_tops (h : ∀ j, 13 ≤ j → j < (kindsZ cs).length → leadsZ (kindsZ cs) ((kindsZ cs).getD j default) = true) : ∀ j, 13 ≤ j → j < (kindsZ cs).length → topsZ (kindsZ cs) (j : Int) = true := by
 intro j h13 hj
 have hsys : ∀ j, j < (kindsZ cs).length → ¬ ((kindsZ cs).getD j default).super = sysB := fun i hi => by
  by_cases hi13 : i < 13
  ·rw [kindsZ_built hi13]; exact builtK_supers i hi13
  ·have := h i (by omega) hi
   unfold leadsZ at this
   rw [Bool.and_eq_true, decide_eq_true_eq] at this
   exact this.1
 have hb := h j h13 hj
 unfold leadsZ at hb
 rw [Bool.and_eq_true] at hb
 have hb2 := hb.2
 unfold belowZ at hb2
 rw [treeZ_len] at hb2
 exact below_tops hon hsys _ j hj hb2
theorem tops_leads (h : ∀ j, 13 ≤ j → j < (kindsZ cs).length → topsZ (kindsZ cs) (j : Int) = true) : ∀ j, 13 ≤ j → j < (kindsZ cs).length → leadsZ (kindsZ cs) ((kindsZ cs).getD j default) = true := by
 intro j h13 hj
 unfold leadsZ belowZ
 rw [treeZ_len, tops_below hon _ j hj (h j h13 hj), Bool.and_true, decide_eq_true_eq]
 exact tops_sys h13 hj (h j h13 hj)
end
theorem hasFrom_hit {n d : ByteArray} : ∀ {l : List MethN} {i p : Nat}, hasFrom n d i l = (p : Int) → i ≤ p ∧ p < i + l.length ∧ (l.getD (p - i) default).name = n ∧ (l.getD (p - i) default).desc = d
 | [], i, p, h => by simp [hasFrom] at h <;> omega
 | m :: r, i, p, h => by
  rw [hasFrom] at h
  by_cases hp : m.name = n ∧ m.desc = d
  ·rw [if_pos hp] at h
   obtain rfl : i = p := by omega
   exact ⟨Nat.le_refl _, by simp, by simpa using hp.1, by simpa using hp.2⟩
  ·rw [if_neg hp] at h
   obtain ⟨h1, h2, h3, h4⟩ := hasFrom_hit h
   refine ⟨by omega, by rw [List.length_cons]; omega, ?_⟩
   rw [show p - i = (p - (i + 1)) + 1 by omega]
   exact ⟨h3, h4⟩
theorem hasZ_hit {n d : ByteArray} {l : List MethN} {p : Nat} (h : hasZ l n d = (p : Int)) : p < l.length ∧ (l.getD p default).name = n ∧ (l.getD p default).desc = d := by
 obtain ⟨_, h2, h3, h4⟩ := hasFrom_hit (show hasFrom n d 0 l = _ from h)
 rw [Nat.zero_add] at h2
 rw [Nat.sub_zero] at h3 h4
 exact ⟨h2, h3, h4⟩
theorem flags_eq {a b : MethN} (ha : a.flags = 0 ∨ a.flags = 8) (hb : b.flags = 0 ∨ b.flags = 8) (h : ((a.flags == 8) == (b.flags == 8)) = true) : (a.flags == b.flags) = true := by
 rcases ha with ha | ha <;> rcases hb with hb | hb <;> rw [ha, hb] at h ⊢ <;> first | rfl | exact absurd h (by decide)
theorem keepAt_of {ks : List KindV} {m : MethN} {u : Nat} (hm : m.flags = 0 ∨ m.flags = 8) (hu : ∀ x ∈ (ks.getD u default).meths, x.flags = 0 ∨ x.flags = 8) (h : ∀ a, ownAt ks u m.name m.desc = some a → (a.static == (m.flags == 8)) = true) : keepAt ks m u = true := by
 unfold keepAt
 split
 ·rfl
 ·rename_i hh
  have h1 := h _ (by unfold ownAt; rw [if_neg hh])
  rcases hasZ_cases (ks.getD u default).meths m.name m.desc with e | ⟨p, hp, e⟩
  ·rw [e] at hh; exact absurd (by decide) hh
  ·refine flags_eq (hu _ ?_) hm h1
   rw [e, Int.toNat_natCast]
   exact getD_memM hp
section
variable {ks : List KindV} (he : EndsAll ks) (hfl : ∀ k ∈ ks, FlagsL k.meths)
include he hfl
theorem keep_chain : ∀ (n : Nat) (x : Int), x < ks.length → (upZ ks x).length ≤ n → (∀ u ∈ upZ ks x, keepsZ ks u = true) → ∀ m : MethN, (m.flags = 0 ∨ m.flags = 8) → m.name ≠ initB →
  (∀ a, firstO (upZ ks x) (fun j => ownAt ks j m.name m.desc) = some a → (a.static == (m.flags == 8)) = true) → ∀ u ∈ upZ ks x, keepAt ks m u = true
 | n, x, hx, hn, hk, m, hm, hi, hf, u, hu => by
  by_cases h0 : x < 0
  ·rw [upZ_end h0] at hu; cases hu
  obtain ⟨i, rfl⟩ := Int.eq_ofNat_of_zero_le (show 0 ≤ x by omega)
  have hil : i < ks.length := by omega
  rw [upZ_step he hil] at hu hn hk hf
  have hfi : ∀ x ∈ (ks.getD i default).meths, x.flags = 0 ∨ x.flags = 8 := hfl _ (getD_memK hil)
  cases n with
  | zero => simp at hn
  | succ n =>
   have hn' : (upZ ks (superZ ks i)).length ≤ n := by simpa using hn
   have hk' : ∀ u ∈ upZ ks (superZ ks i), keepsZ ks u = true := fun u h => hk u (List.mem_cons_of_mem _ h)
   rcases hasZ_cases (ks.getD i default).meths m.name m.desc with e | ⟨p, hp, e⟩
   ·have ho : ownAt ks i m.name m.desc = none := by unfold ownAt; rw [e, if_pos (by decide)]
    rcases List.mem_cons.1 hu with rfl | hu
    ·unfold keepAt; rw [e, if_pos (by decide)]
    ·refine keep_chain n _ (superZ_lt ks i) hn' hk' m hm hi (fun a ha => hf a ?_) u hu
     show (match ownAt ks i m.name m.desc with | some m => some m | none => _) = some a
     rw [ho]; exact ha
   ·have hk1 : keepAt ks m i = true := keepAt_of hm hfi (fun a ha => hf a (by show (match ownAt ks i m.name m.desc with | some m => some m | none => _) = some a; rw [ha]))
    rcases List.mem_cons.1 hu with rfl | hu
    ·exact hk1
    ·have hi' := hk i (List.mem_cons_self ..)
     have hh := hasZ_hit e
     unfold keepsZ at hi'
     rw [List.all_eq_true] at hi'
     have h3 := hi' _ (getD_memM hp)
     unfold keepsM at h3
     rw [hh.2.1, if_neg hi, List.all_eq_true] at h3
     have h4 := h3 u hu
     unfold keepAt at h4 hk1 ⊢
     rw [hh.2.1, hh.2.2] at h4
     rw [e, if_neg (by omega), Int.toNat_natCast] at hk1
     rw [beq_iff_eq.1 hk1] at h4
     exact h4
omit hfl in
theorem upZ_tail : ∀ (n : Nat) (x : Int), x < ks.length → (upZ ks x).length = n → ∀ v ∈ upZ ks x, (upZ ks (v : Int)).length ≤ (upZ ks x).length
 | n, x, hx, hn, v, hv => by
  by_cases h0 : x < 0
  ·rw [upZ_end h0] at hv; cases hv
  obtain ⟨i, rfl⟩ := Int.eq_ofNat_of_zero_le (show 0 ≤ x by omega)
  have hil : i < ks.length := by omega
  have hst := upZ_step he hil
  rw [hst] at hv hn
  rcases List.mem_cons.1 hv with rfl | hv
  ·exact Nat.le_refl _
  ·cases n with
   | zero => simp at hn
   | succ n =>
    have := upZ_tail n _ (superZ_lt ks i) (by simpa using hn) v hv
    rw [hst, List.length_cons]
    omega
theorem agrees_keeps (hb : ∀ j, j < 13 → j < ks.length → keepsZ ks j = true) (h : ∀ j, 13 ≤ j → j < ks.length → agreesZ ks (ks.getD j default) = true) : ∀ (n j : Nat), j < ks.length → (upZ ks (j : Int)).length ≤ n → keepsZ ks j = true
 | n, j, hj, hn => by
  by_cases h13 : j < 13
  ·exact hb j h13 hj
  have ha := h j (by omega) hj
  have hs : superZ ks (j : Int) = findZ ks (ks.getD j default).super := super_list (by omega) hj
  rw [upZ_step he hj] at hn
  cases n with
  | zero => simp at hn
  | succ n =>
   have hn' : (upZ ks (superZ ks j)).length ≤ n := by simpa using hn
   unfold keepsZ
   unfold agreesZ at ha
   rw [List.all_eq_true] at ha ⊢
   intro m hm
   have h1 := ha m hm
   unfold keepsM
   split
   ·rfl
   ·rename_i hi
    rw [List.all_eq_true]
    intro u hu
    refine keep_chain he hfl n _ (superZ_lt ks j) hn' (fun v hv => ?_) m (hfl _ (getD_memK hj) m hm) hi (fun a hx => ?_) u hu
    ·have hv2 : v < ks.length := by
      have := seqX_lt he _ _ rfl v (by rw [seqX_in (superZ_lt ks j)]; exact hv)
      exact this
     refine agrees_keeps hb h n v hv2 (Nat.le_trans ?_ hn')
     exact upZ_tail he _ _ (superZ_lt ks j) rfl v hv
    ·unfold agreeM agreeO lookZ at h1
     rw [if_neg hi, ← hs, hx] at h1
     exact h1
omit he hfl in
theorem firstO_hit {f : Nat → Option MemV} {a : MemV} : ∀ {xs : List Nat}, firstO xs f = some a → ∃ u ∈ xs, f u = some a
 | [], h => by cases h
 | j :: r, h => by
  rw [firstO] at h
  split at h
  ·rename_i m hm
   injection h with h
   subst h
   exact ⟨j, List.mem_cons_self .., hm⟩
  ·obtain ⟨u, hu, hf⟩ := firstO_hit h
   exact ⟨u, List.mem_cons_of_mem _ hu, hf⟩
omit he hfl in
theorem keeps_agrees {j : Nat} (h1 : 1 ≤ j) (hj : j < ks.length) (h : keepsZ ks j = true) : agreesZ ks (ks.getD j default) = true := by
 have hs : superZ ks (j : Int) = findZ ks (ks.getD j default).super := super_list h1 hj
 unfold keepsZ at h
 unfold agreesZ
 rw [List.all_eq_true] at h ⊢
 intro m hm
 have h2 := h m hm
 unfold agreeM agreeO lookZ
 by_cases hi : m.name = initB
 ·rw [if_pos hi]
 ·rw [if_neg hi, ← hs]
  unfold keepsM at h2
  rw [if_neg hi, List.all_eq_true] at h2
  split
  ·rename_i a ha
   obtain ⟨u, hu, hf⟩ := firstO_hit ha
   have h3 := h2 u hu
   unfold keepAt at h3
   unfold ownAt at hf
   split at hf
   ·cases hf
   ·rename_i hh
    rw [if_neg hh, beq_iff_eq] at h3
    injection hf with hf
    subst hf
    show ((_ == 8) == (m.flags == 8)) = true
    rw [h3]
    simp
  ·rfl
end
theorem built_meths : ∀ j, j < 13 → 1 ≤ j → ∀ m ∈ (builtK.getD j default).meths, m.name = initB ∨ (hasZ (builtK.getD 0 default).meths m.name m.desc = -1 ∧ hasZ (builtK.getD 1 default).meths m.name m.desc = -1) := by decide
theorem built_keeps {cs : List ClassV} (he : EndsAll (kindsZ cs)) {j : Nat} (h : j < 13) : keepsZ (kindsZ cs) j = true := by
 have hl := kindsZ_len cs
 unfold keepsZ
 rw [List.all_eq_true, kindsZ_built h]
 intro m hm
 unfold keepsM
 split
 ·rfl
 ·rename_i hi
  rw [List.all_eq_true]
  intro u hu
  by_cases h0 : j = 0
  ·subst h0
   rw [show ((0 : Nat) : Int) = 0 from rfl, super_zero, upZ_end (x := -1) (by decide)] at hu
   cases hu
  have hz : upZ (kindsZ cs) 0 = [0] := by
   have := upZ_step he (x := 0) (by omega)
   rw [show ((0 : Nat) : Int) = 0 from rfl, super_zero, upZ_end (x := -1) (by decide)] at this
   exact this
  have ho : upZ (kindsZ cs) 1 = [1, 0] := by
   have := upZ_step he (x := 1) (by omega)
   rw [show ((1 : Nat) : Int) = 1 from rfl, super_one, hz] at this
   exact this
  have hu2 : u = 0 ∨ u = 1 := by
   rcases super_built (cs := cs) (show 1 ≤ j by omega) h with e | e
   ·rw [e, hz] at hu; left; simpa using hu
   ·rw [e, ho] at hu; simp at hu; omega
  have hk := (built_meths j h (by omega) m hm).resolve_left hi
  unfold keepAt
  rcases hu2 with rfl | rfl
  ·rw [kindsZ_built (show 0 < 13 by decide), hk.1, if_pos (by decide)]
  ·rw [kindsZ_built (show 1 < 13 by decide), hk.2, if_pos (by decide)]
theorem main_static (ks : List KindV) (hon : NamesOnce ks) (h13 : 13 < ks.length) : (mainZ ks).static = true ↔ ¬ hasZ (ks.getD 13 default).meths mainB voidB < 0 ∧ ((ks.getD 13 default).meths.getD (hasZ (ks.getD 13 default).meths mainB voidB).toNat default).flags = 8 := by
 unfold mainZ
 rw [ownZ_at hon h13]
 unfold ownAt
 by_cases h : hasZ (ks.getD 13 default).meths mainB voidB < 0
 ·rw [if_pos h]
  exact ⟨fun h => (by cases h), fun h' => absurd h h'.1⟩
 ·rw [if_neg h]
  show ((_ == 8) = true) ↔ _
  rw [beq_iff_eq]
  exact ⟨fun h' => ⟨h, h'⟩, fun h' => h'.2⟩
theorem main_none {cs : List ClassV} (h : ¬ 13 < (kindsZ cs).length) : (mainZ (kindsZ cs)).static = false := by
 have hl := kindsZ_len cs
 obtain rfl : cs = [] := List.length_eq_zero_iff.1 (by omega)
 decide
theorem rules_right {cs : List ClassV} (h0 : ∀ c ∈ cs, clsZ c = 0) : RuleK (kindsZ cs) ↔ RightK (kindsZ cs) := by
 have hfl : ∀ k ∈ kindsZ cs, FlagsL k.meths := fun k hk => (fine_all h0 k hk).mf
 constructor
 ·intro h
  have hon := once_all (cs := cs) (fun j h1 h2 => (h.r1 j h1 h2).2)
  have htp := leads_tops hon h.r2
  have he := ends_all htp
  refine ⟨fun j h1 h2 => ⟨h.r1 j h1 h2, h.r3 j h1 h2, h.r4 j h1 h2⟩, htp, fun j h1 h2 => agrees_keeps he hfl (fun j hj _ => built_keeps he hj) h.r5 _ j h2 (Nat.le_refl _), ?_⟩
  by_cases h13 : 13 < (kindsZ cs).length
  ·exact ⟨h13, (main_static _ hon h13).1 h.main⟩
  ·have := h.main
   rw [main_none h13] at this
   cases this
 ·intro h
  have hon := once_all (cs := cs) (fun j h1 h2 => (h.own j h1 h2).1.2)
  exact ⟨fun j h1 h2 => (h.own j h1 h2).1, tops_leads hon h.tops, fun j h1 h2 => (h.own j h1 h2).2.1, fun j h1 h2 => (h.own j h1 h2).2.2, fun j h1 h2 => keeps_agrees (by omega) h2 (h.keeps j h1 h2), (main_static _ hon h.main.1).2 h.main.2⟩
theorem builtK_names : ∀ j, j < 13 → ¬ (builtK.getD j default).name = ⟨#[]⟩ := by decide
theorem root_none {cs : List ClassV} (r1 : ∀ j, 13 ≤ j → j < (kindsZ cs).length → plainN (nums ((kindsZ cs).getD j default).name) = true ∧ findZ (kindsZ cs) ((kindsZ cs).getD j default).name = (j : Int)) : findZ (kindsZ cs) ((kindsZ cs).getD 0 default).super = -1 := by
 rw [show ((kindsZ cs).getD 0 default).super = ⟨#[]⟩ from rfl]
 rcases findZ_cases (kindsZ cs) ⟨#[]⟩ with e | ⟨i, hi, e⟩
 ·exact e
 ·have hh := find_hit e
  by_cases h13 : i < 13
  ·rw [kindsZ_built h13] at hh
   exact absurd hh.2 (builtK_names i h13)
  ·have h1 := (r1 i (by omega) hi).1
   rw [hh.2] at h1
   exact absurd h1 (by decide)
theorem rules_good {cs : List ClassV} (h0 : ∀ c ∈ cs, clsZ c = 0) (hl : cs.length ≤ 16) (r1 : ∀ j, 13 ≤ j → j < (kindsZ cs).length → plainN (nums ((kindsZ cs).getD j default).name) = true ∧ findZ (kindsZ cs) ((kindsZ cs).getD j default).name = (j : Int))
  (r2 : ∀ j, 13 ≤ j → j < (kindsZ cs).length → leadsZ (kindsZ cs) ((kindsZ cs).getD j default) = true) : GoodK (kindsZ cs) := by
 have hon := once_all (cs := cs) (fun j h1 h2 => (r1 j h1 h2).2)
 exact ⟨by rw [kindsZ_len]; omega, fine_small h0 hl, root_none r1, fine_all h0, ends_all (leads_tops hon r2), hon⟩
end Go.Proofs.YtemplkpcckmcoaaGreatDoor
