import Derived.Test.YtemplkpcckmcoaaGreatDoorMkLpTLpR
import Derived.Test.YtemplkpcckmcoaaGreatDoorMkLpS
import Derived.Test.YtemplkpcckmcoaaGreatDoorMkLpJLpL
import Derived.Test.YtemplkpcckmcoaaGreatDoorMkPolXClsB
namespace Go.Proofs.YtemplkpcckmcoaaGreatDoor
set_option maxHeartbeats 16000000
open Lib (hid)
open Go.RowKit Go.Maps
set_option linter.unusedVariables false
set_option linter.unusedSimpArgs false
def GW (pb mb : Nat) (vl : Value) (n : Nat) (fv : Nat → Value) (b : Nat) : Prop := b = pb ∨ b = mb ∨ vl.ownBlock = some b ∨ ∃ i, i < n ∧ (fv i).ownBlock = some b
def setV {α : Type} (f : Nat → α) (n : Nat) (x : α) : Nat → α := fun i => if i = n then x else f i
theorem setV_at {α : Type} (f : Nat → α) (n : Nat) (x : α) : setV f n x n = x := if_pos rfl
theorem setV_lt {α : Type} (f : Nat → α) {n i : Nat} (x : α) (h : i < n) : setV f n x i = f i := if_neg (by omega)
theorem getD_app_lt {α : Type} {l : List α} {x d : α} {i : Nat} (h : i < l.length) : (l ++ [x]).getD i d = l.getD i d := by simp [List.getD, List.getElem?_append_left h]
theorem getD_app_eq {α : Type} {l : List α} {x d : α} {n : Nat} (h : l.length = n) : (l ++ [x]).getD n d = x := by subst h; simp [List.getD]
structure Gath (B : Nat) (w : World) (pb mb : Nat) (vl : Value) (ks : List KindV) (ivs : List Value) (fv : Nat → Value) (cl : Nat → ClassV) : Prop where
 obj : w.heap[pb]? = some (progO vl mb)
 names : NamesM w mb ks
 row : w.ownsRow B 104 1 vl ks.length ivs
 base : B ≤ w.heap.size
 ne : pb ≠ mb ∧ vl.ownBlock ≠ some pb ∧ vl.ownBlock ≠ some mb
 known : ∀ i, i < ks.length → KnownG (GW pb mb vl ks.length fv) w i (ivs.getD i .nilIface) (ks.getD i default) (cl i) (fv i)
 flds : ∀ i, i < ks.length → FldS w (fv i) (ks.getD i default).fields (fun _ => 0)
 own : ∀ i b, i < ks.length → (fv i).ownBlock = some b → b < w.heap.size ∧ b ≠ pb ∧ b ≠ mb ∧ vl.ownBlock ≠ some b
 apart : ∀ i j b, i < ks.length → j < ks.length → (fv i).ownBlock = some b → (fv j).ownBlock = some b → i = j
section
variable {B pb mb : Nat} {w : World} {vl : Value} {ks : List KindV} {ivs : List Value} {fv : Nat → Value} {cl : Nat → ClassV} (h : Gath B w pb mb vl ks ivs fv cl)
include h
theorem Gath.len : ivs.length = ks.length := by have := h.row.1; omega
theorem Gath.lt {b : Nat} (hb : GW pb mb vl ks.length fv b) : b < w.heap.size := by
 rcases hb with rfl | rfl | hb | ⟨i, hi, hb⟩
 ·exact heap_lt h.obj
 ·exact h.names.lt
 ·exact (World.ownsRow.lt h.row b hb).2
 ·exact (h.own i b hi hb).1
theorem Gath.only {w' : World} (ho : Only (fun _ => False) w w') : Gath B w' pb mb vl ks ivs fv cl :=
 ⟨ho.heap h.obj (fun h => h), h.names.only ho (fun h => h), ho.owns h.row (fun _ _ h => h), Nat.le_trans h.base ho.size, h.ne, fun i hi => (h.known i hi).only ho (fun _ h => h.elim), fun i hi => (h.flds i hi).only ho (fun _ _ h => h), fun i b hi hb => ⟨Nat.lt_of_lt_of_le (h.own i b hi hb).1 ho.size, (h.own i b hi hb).2⟩, h.apart⟩
theorem Gath.push {w2 w3 : World} (h12 : Only (fun _ => False) w w2) {k : KindV} {iv vof vl' : Value} {c : ClassV} {Gk : Nat → Prop} (ha : Added B w2 pb mb vl ks ivs k iv vl' w3)
  (hk : KnownG Gk w2 ks.length iv k c vof) (hG : ∀ b, GW pb mb vl ks.length fv b ∨ vof.ownBlock = some b → Gk b) (hf : FldS w2 vof k.fields (fun _ => 0)) (ho : ∀ b, vof.ownBlock = some b → w.heap.size ≤ b ∧ b < w2.heap.size) :
  Gath B w3 pb mb vl' (ks ++ [k]) (ivs ++ [iv]) (setV fv ks.length vof) (setV cl ks.length c) := by
 have hl : (ks ++ [k]).length = ks.length + 1 := by simp
 have hil := h.len
 have hsz := h12.size
 have hs3 := ha.only.size
 have hSG : ∀ b, b = pb ∨ b = mb ∨ vl.ownBlock = some b → GW pb mb vl ks.length fv b := fun b hb => by
  rcases hb with hb | hb | hb
  ·exact .inl hb
  ·exact .inr (.inl hb)
  ·exact .inr (.inr (.inl hb))
 have hGW : ∀ b, GW pb mb vl' (ks.length + 1) (setV fv ks.length vof) b → GW pb mb vl ks.length fv b ∨ w2.heap.size ≤ b ∨ vof.ownBlock = some b := fun b hb => by
  rcases hb with hb | hb | hb | ⟨i, hi, hb⟩
  ·exact .inl (.inl hb)
  ·exact .inl (.inr (.inl hb))
  ·rcases ha.own b hb with h1 | h1
   ·exact .inl (.inr (.inr (.inl h1)))
   ·exact .inr (.inl h1)
  ·by_cases hin : i = ks.length
   ·subst hin
    rw [setV_at] at hb
    exact .inr (.inr hb)
   ·rw [setV_lt _ _ (by omega)] at hb
    exact .inl (.inr (.inr (.inr ⟨i, by omega, hb⟩)))
 have hvl : ∀ b, vl'.ownBlock = some b → b < w.heap.size → vl.ownBlock = some b := fun b hb hlt => by
  rcases ha.own b hb with h1 | h1
  ·exact h1
  ·omega
 refine ⟨ha.obj, ha.names, by rw [hl]; exact ha.row, by have := h.base; omega, ⟨h.ne.1, fun e => ?_, fun e => ?_⟩, fun i hi => ?_, fun i hi => ?_, fun i b hi hb => ?_, fun i j b hi hj hbi hbj => ?_⟩
 ·exact h.ne.2.1 (hvl _ e (h.lt (.inl rfl)))
 ·exact h.ne.2.2 (hvl _ e (h.lt (.inr (.inl rfl))))
 ·rw [hl] at hi ⊢
  by_cases hin : i = ks.length
  ·subst hin
   rw [getD_app_eq hil, getD_app_eq rfl, setV_at, setV_at]
   refine ((hk.mono (G' := fun b => Gk b ∨ w2.heap.size ≤ b) (fun b hb hG' => hG'.elim id (fun h => by omega))).only ha.only (fun b hb => .inl (hG b (.inl (hSG b hb))))).mono (fun b _ hb => ?_)
   rcases hGW b hb with h1 | h1 | h1
   ·exact .inl (hG b (.inl h1))
   ·exact .inr h1
   ·exact .inl (hG b (.inr h1))
  ·have hi' : i < ks.length := by omega
   rw [getD_app_lt (by omega), getD_app_lt hi', setV_lt _ _ hi', setV_lt _ _ hi']
   refine ((((h.known i hi').mono (G' := fun b => GW pb mb vl ks.length fv b ∨ w.heap.size ≤ b) (fun b hb hG' => hG'.elim id (fun h => by omega))).only h12 (fun _ h => h.elim)).only ha.only (fun b hb => .inl (hSG b hb))).mono (fun b _ hb => ?_)
   rcases hGW b hb with h1 | h1 | h1
   ·exact .inl h1
   ·exact .inr (by omega)
   ·exact .inr (ho b h1).1
 ·rw [hl] at hi
  by_cases hin : i = ks.length
  ·subst hin
   rw [getD_app_eq rfl, setV_at]
   exact hf.only ha.only (fun b hb hS => by have := (ho b hb).1; have := h.lt (hSG b hS); omega)
  ·have hi' : i < ks.length := by omega
   rw [getD_app_lt hi', setV_lt _ _ hi']
   exact ((h.flds i hi').only h12 (fun _ _ h => h)).only ha.only (fun b hb hS => by
    obtain ⟨-, h1, h2, h3⟩ := h.own i b hi' hb
    rcases hS with h4 | h4 | h4
    ·exact h1 h4
    ·exact h2 h4
    ·exact h3 h4)
 ·rw [hl] at hi
  by_cases hin : i = ks.length
  ·subst hin
   rw [setV_at] at hb
   obtain ⟨h1, h2⟩ := ho b hb
   have hp := h.lt (b := pb) (.inl rfl)
   have hm := h.lt (b := mb) (.inr (.inl rfl))
   refine ⟨by omega, by omega, by omega, fun e => ?_⟩
   rcases ha.own b e with h3 | h3
   ·have := h.lt (b := b) (.inr (.inr (.inl h3))); omega
   ·omega
  ·have hi' : i < ks.length := by omega
   rw [setV_lt _ _ hi'] at hb
   obtain ⟨h0, h1, h2, h3⟩ := h.own i b hi' hb
   exact ⟨by omega, h1, h2, fun e => h3 (hvl b e h0)⟩
 ·rw [hl] at hi hj
  by_cases hin : i = ks.length
  ·by_cases hjn : j = ks.length
   ·omega
   ·subst hin
    rw [setV_at] at hbi
    rw [setV_lt _ _ (by omega)] at hbj
    have := (h.own j b (by omega) hbj).1
    have := (ho b hbi).1
    omega
  ·rw [setV_lt _ _ (by omega)] at hbi
   by_cases hjn : j = ks.length
   ·subst hjn
    rw [setV_at] at hbj
    have := (h.own i b (by omega) hbi).1
    have := (ho b hbj).1
    omega
   ·rw [setV_lt _ _ (by omega)] at hbj
    exact h.apart i j b (by omega) (by omega) hbi hbj
theorem Gath.prog : ProgG (fun b => ∃ i, i < ks.length ∧ (fv i).ownBlock = some b) fv w pb ks cl (fun _ _ => 0) := by
 have hmono : ∀ i, i < ks.length → KnownG (fun b => ∃ i, i < ks.length ∧ (fv i).ownBlock = some b) w i (ivs.getD i .nilIface) (ks.getD i default) (cl i) (fv i) := fun i hi => (h.known i hi).mono (fun b _ hb => .inr (.inr (.inr hb)))
 refine ⟨⟨vl, mb, h.obj, h.names, ?_, fun ⟨i, hi, hb⟩ => (h.own i pb hi hb).2.1 rfl, fun ⟨i, hi, hb⟩ => (h.own i mb hi hb).2.2.1 rfl⟩, h.flds, fun i b hi hb => ⟨(h.own i b hi hb).1, i, hi, hb⟩, h.apart⟩
 have hrow := h.row
 rcases hrow.2 with ⟨e, hn⟩ | ⟨g, cap, cur, e, hb, hg, hnc, hcm, hcs, htake⟩
 ·rw [e, hn]
  exact Sl.nil _
 ·subst e
  refine ⟨_, cap, rfl, hnc, by unfold maxLen at hcm; omega, (fun e => by cases e), fun x hx _ => ?_⟩
  cases hx
  refine ⟨g, 0, rfl, fun i hi => ⟨⟨_, ?_, hmono i hi⟩, fun ⟨j, hj, hbj⟩ => (h.own j g hj hbj).2.2.2 rfl⟩⟩
  have hc := hrow.cellAt i (by omega)
  rw [Nat.zero_add, hc]
  have hlt : i < ivs.length := by have := h.len; omega
  simp [List.getD, hlt]
end
theorem few_cls {c : ClassV} (h : clsZ c = 0) : FewC c ∧ c.fields.length ≤ 64 ∧ c.methods.length ≤ 64 := by
 obtain ⟨h1, h2, h3⟩ := clsZ_zero h
 have h4 : ¬ 64 < c.fields.length := fun x => h2 (.inl x)
 have h5 : ¬ 64 < c.methods.length := fun x => h2 (.inr (.inl x))
 have h6 := (checkZ_zero h1).1
 refine ⟨⟨by omega, by omega, by omega, fun m hm => ?_⟩, by omega, by omega⟩
 have h7 : ¬ 64 < m.traps.length := fun x => h2 (.inr (.inr ⟨m, hm, x⟩))
 obtain ⟨-, ⟨-, b1, b2, -⟩, -⟩ := h3.2.2.2 m hm
 exact ⟨by omega, by omega, by omega⟩
theorem make_map0 (w : World) : (Instr.makeMap 84 none).run Tryz.prog w = .ok (.map (some w.heap.size)) (w.alloc (.map #[] 0)) := by
 have h : (underlying 84).run Tryz.prog w = .ok (.map 9 3) w := by kernel_rfl
 simp only [Instr.makeMap, Sem.run_bind, h, Result.andThen]
 rfl
theorem has_nil (k : Lit) : Maps.has (.map [] : DataW Unit) k = false := rfl
theorem names_nil {w : World} {mb : Nat} (h : w.ownsMap Tryz.prog 9 (plainElem (H := Unit) Tryz.prog 3) mb 0 (.map [])) : NamesM w mb [] :=
 ⟨0, _, Nat.le_refl _, h, isMap_empty, fun x => ⟨by rw [has_nil]; rfl, fun h => absurd (show findZ [] x < 0 by show (-1 : Int) < 0; decide) h⟩⟩
theorem take_stepK {l : List KindV} {j : Nat} (h : j < l.length) : l.take (j + 1) = l.take j ++ [l.getD j default] := by
 rw [List.take_succ_eq_append_getElem h]
 simp [List.getD, h]
theorem take_lenK {l : List KindV} {j : Nat} (h : j ≤ l.length) : (l.take j).length = j := by rw [List.length_take]; omega
theorem setV_const {α : Type} (x : α) (n : Nat) : setV (fun _ => x) n x = fun _ => x := by
 funext i
 unfold setV
 split <;> rfl
structure Along (w wr : World) (ks : List KindV) (fv : Nat → Value) (cl : Nat → ClassV) (cs : List ClassV) : Prop where
 only : Only (fun _ => False) w wr
 own : ∀ i b, i < ks.length → (fv i).ownBlock = some b → w.heap.size ≤ b
 cls : ∀ i, 13 ≤ i → i < ks.length → cl i = cs.getD (i - 13) default
def GatherTo (w : World) (cs : List ClassV) (e : Ending) (w' : World) : Prop :=
 ∃ pb fv cl, e = .returned (.pointer (some ⟨pb, 0, none⟩)) ∧ w.heap.size ≤ pb ∧ ProgG (fun b => ∃ i, i < (kindsZ cs).length ∧ (fv i).ownBlock = some b) fv w' pb (kindsZ cs) cl (fun _ _ => 0) ∧ Along w w' (kindsZ cs) fv cl cs
set_option maxRecDepth 100000 in
theorem pGather (v : Value) (cs : List ClassV) (w : World) (hc : Classes w v cs) (h0 : ∀ c ∈ cs, clsZ c = 0) (hl : cs.length ≤ 16) :
  Calls Tryz.prog 9 #[v] w (GatherTo w cs) := by
 obtain ⟨f, hsl, hcm⟩ := hc
 obtain ⟨ao, cap, rfl, p1, p2, p3, -⟩ := id hsl
 have ha0 := (Only.refl (fun _ => False) w).alloc (.map #[] 0)
 have ha1 := ha0.alloc (.cells #[.slice none 0 0, .map (some w.heap.size)] 87)
 have hp1 := heap_alloc_new (w.alloc (.map #[] 0)) (.cells #[.slice none 0 0, .map (some w.heap.size)] 87)
 have hm0 := World.ownsMap_made w Tryz.prog 9 (plainElem (H := Unit) Tryz.prog 3)
 have hm1 := names_nil (owns_map_only hm0 ((Only.refl (fun _ => False) (w.alloc (.map #[] 0))).alloc (.cells #[.slice none 0 0, .map (some w.heap.size)] 87)) (fun h => h))
 rw [World.size_alloc] at hp1
 have hs1 : ((w.alloc (.map #[] 0)).alloc (.cells #[.slice none 0 0, .map (some w.heap.size)] 87)).heap.size = w.heap.size + 2 := by simp
 obtain ⟨W1, hW1⟩ : ∃ W1, (w.alloc (.map #[] 0)).alloc (.cells #[.slice none 0 0, .map (some w.heap.size)] 87) = W1 := ⟨_, rfl⟩
 rw [hW1] at ha1 hp1 hm1 hs1
 have C1 := hid (pBuiltIns W1)
 have HW1 := hid hW1
 have HA1 := hid ha1
 have HP1 := hid hp1
 have HM1 := hid hm1
 have HS1 := hid hs1
 have HSL := hid hsl
 have HCM := hid hcm
 have H0 := hid h0
 have hmk := make_map0
 clear ha0 ha1 hp1 hm0 hm1 hs1 hW1 hsl hcm h0 p3
 go_enter Tryz.func9, Tryz.ntmps9
 go_wp2_with (fail)
 rw [HW1.out]
 refine C1.out.mono ?_
 rintro e w2 ⟨r, l, rfl, hlk, hbr, hbm, ho2⟩
 have hll : l.length = 13 := by rw [← List.length_map (f := (·.1)), hlk]; rfl
 obtain ⟨ar, cr, rfl, b1, b2, -, -⟩ := id hbr.bis
 have hrg : ∀ k, (Value.slice ar l.length cr).ownBlock = some k → W1.heap.size ≤ k ∧ k < w2.heap.size := fun k hk => hbr.ge k hk
 have hbm2 : ∀ p ∈ l, p.1.fields = [] ∧ MemG (fun k => (k < W1.heap.size ∨ (Value.slice ar l.length cr).ownBlock = some k) ∨ w2.heap.size ≤ k) w2 p.2 p.1.meths := fun p hp => ⟨(hbm p hp).1, (hbm p hp).2.mono (fun k hk h => h.elim id (fun h => by omega))⟩
 have hg0 : Gath w2.heap.size w2 (w.heap.size + 1) w.heap.size (.slice none 0 0) [] [] (fun _ => .slice none 0 0) (fun _ => default) :=
  ⟨ho2.heap HP1.out (fun h => h), HM1.out.only ho2 (fun h => h), World.ownsRow_nil _ _ _ _, Nat.le_refl _, ⟨by omega, (fun h => by cases h), fun h => by cases h⟩, (fun i hi => by cases hi), (fun i hi => by cases hi), (fun i b hi => by cases hi), (fun i j b hi => by cases hi)⟩
 have HG0 := hid hg0
 have HBR := hid hbr
 have HBM := hid hbm2
 have HRG := hid hrg
 have HLK := hid hlk
 have HO2 := hid (HA1.out.trans ho2 (fun _ h _ => h))
 have HSZ := hid (show W1.heap.size = w.heap.size + 2 ∧ W1.heap.size ≤ w2.heap.size from ⟨HS1.out, ho2.size⟩)
 have HLL := hid hll
 rw [hll] at b1 HBR HRG HBM ⊢
 clear hg0 hbr hbm hbm2 hrg hlk ho2 hll hmk
 go_wp2
 go_loopw [13] (fun iv wr => ∃ (j : Nat) (vl : Value) (ivs : List Value) (cl : Nat → ClassV), iv = .int .i64 j ∧ j ≤ 13 ∧ Hid (Gath w2.heap.size wr (w.heap.size + 1) w.heap.size vl (builtK.take j) ivs (fun _ => .slice none 0 0) cl) ∧
  Hid (BRow wr W1.heap.size (.slice ar 13 cr) l) ∧ Hid (∀ p ∈ l, p.1.fields = [] ∧ MemG (fun k => (k < W1.heap.size ∨ (Value.slice ar 13 cr).ownBlock = some k) ∨ w2.heap.size ≤ k) wr p.2 p.1.meths) ∧ Hid (Only (fun _ => False) w wr)) (fun iv _ => 13 - (intOf iv).toNat)
 case atStart => exact ⟨0, _, _, _, rfl, Nat.zero_le _, HG0, HBR, HBM, HO2⟩
 case round =>
  obtain ⟨j, vl, ivs, cl, rfl, hj, HG, HBW, HBX, HON⟩ := hrel
  by_cases hlt : j < 13
  ·have hjz : (j : Int) < 13 := by omega
   have hj0 : (0 : Int) ≤ (j : Int) := by omega
   have hlj : j < l.length := by have := HLL.out; omega
   have hbs := HBW.out.bis
   unfold BiS at hbs
   rw [HLL.out] at hbs
   obtain ⟨b9, o9, rfl, hat⟩ := Sl.at hbs hlt
   obtain ⟨kq, u, hq⟩ : ∃ k u, (k, u) = l.getD j default := ⟨_, _, rfl⟩
   have hkq : kq = builtK.getD j default := by
    have h1 : (l.map (·.1)).getD j default = (l.getD j default).1 := by simp [List.getD, hlj]
    rw [HLK.out, ← hq] at h1
    exact h1.symm
   have hmem : (kq, u) ∈ l := by rw [hq]; exact getD_mem hlj
   rw [← hq] at hat
   obtain ⟨r0, r1, r2⟩ := hat
   have hfm := HBX.out _ hmem
   obtain ⟨hfe, hmg⟩ := hfm
   simp only at r0 r1 r2 hfe hmg
   obtain ⟨am, cm, rfl, -⟩ := id hmg
   have hfin := fine_built kq (by rw [hkq]; exact getD_mem (by rw [builtK_len]; exact hlt))
   have hstp := take_stepK (l := builtK) (j := j) (by rw [builtK_len]; exact hlt)
   have hkl := take_lenK (l := builtK) (j := j) (by rw [builtK_len]; omega)
   rw [← hkq] at hstp
   obtain ⟨ks, hks⟩ : ∃ ks, builtK.take j = ks := ⟨_, rfl⟩
   rw [hks] at HG hstp hkl
   have hgo := HG.out
   have hal := (Only.refl (fun _ => False) wr).alloc (.cells #[.string kq.name, .string kq.super, .slice am kq.meths.length cm] 92)
   have hbt := heap_alloc_new wr (.cells #[.string kq.name, .string kq.super, .slice am kq.meths.length cm] 92)
   have hgw := hgo.only hal
   have hvl : ∀ b, vl.ownBlock = some b → w2.heap.size ≤ b := fun b hb => (World.ownsRow.lt hgo.row b hb).1
   have hGG : ∀ b, GW (w.heap.size + 1) w.heap.size vl ks.length (fun _ => .slice none 0 0) b → ((b < W1.heap.size ∨ (Value.slice (some ⟨b9, o9, none⟩) 13 cr).ownBlock = some b) ∨ w2.heap.size ≤ b) := fun b hb => by
    have := HSZ.out
    rcases hb with h | h | h | ⟨_, _, h⟩
    ·exact .inl (.inl (by omega))
    ·exact .inl (.inl (by omega))
    ·exact .inr (hvl b h)
    ·cases h
   have hkn : KnownG (GW (w.heap.size + 1) w.heap.size vl ks.length (fun _ => .slice none 0 0)) (wr.alloc (.cells #[.string kq.name, .string kq.super, .slice am kq.meths.length cm] 92)) ks.length (.iface 92 (.agg #[.string kq.name, .string kq.super, .slice am kq.meths.length cm])) kq default (.slice none 0 0) :=
    .inl ⟨by omega, hfe, rfl, _, rfl, (hmg.only hal (fun _ h => h.elim)).mono (fun b _ hb => hGG b hb)⟩
   obtain ⟨T9, v9, vom9, ht⟩ := hkn.told
   obtain ⟨heq, ⟨nn, hask⟩, -, -, -, -⟩ := ht
   injection heq with heq1 heq2
   subst heq1
   subst heq2
   have CA := hid (pAdd hgw.obj hgw.names hgw.row hgw.base hgw.ne hask (by have := hfin.name; unfold maxLen; omega) (by omega))
   obtain ⟨x0, x1, x2⟩ : (wr.alloc (.cells #[.string kq.name, .string kq.super, .slice am kq.meths.length cm] 92)).cell? ⟨wr.heap.size, 0, none⟩ = some (.string kq.name) ∧ (wr.alloc (.cells #[.string kq.name, .string kq.super, .slice am kq.meths.length cm] 92)).cell? ⟨wr.heap.size, 1, none⟩ = some (.string kq.super) ∧ (wr.alloc (.cells #[.string kq.name, .string kq.super, .slice am kq.meths.length cm] 92)).cell? ⟨wr.heap.size, 2, none⟩ = some (.slice am kq.meths.length cm) := ⟨cell_blk hbt 0, cell_blk hbt 1, cell_blk hbt 2⟩
   have HAL := hid hal
   have HKN := hid hkn
   have HVL := hid hvl
   have HST := hid hstp
   have HKL := hid hkl
   clear hal hbt hgw hgo hGG hkn hask hvl hstp hkl hks hfin hfe hmg hmem hkq hq hbs hlj
   go_wp2_with (fail)
   refine CA.out.mono ?_
   rintro e w5 ⟨rfl, vl', hadd⟩
   have hgp := HG.out.push HAL.out hadd HKN.out (fun b hb => hb.elim id (fun h => by cases h)) (by rw [show kq.fields = [] from by rcases HKN.out with ⟨-, h, -⟩ | ⟨h, -⟩; exact h; have := HKL.out; omega]; exact FldS.nil _ _) (fun b hb => by cases hb)
   rw [setV_const, ← HST.out] at hgp
   have hsz := HSZ.out
   have hS : ∀ b, (b = (w.heap.size + 1) ∨ b = w.heap.size ∨ vl.ownBlock = some b) → b = (w.heap.size + 1) ∨ b = w.heap.size ∨ w2.heap.size ≤ b := fun b hb => hb.imp id (fun h => h.imp id (HVL.out b))
   have hbr5 := (HBW.out.only HAL.out (fun _ _ h => h)).only hadd.only (fun b hb hS' => by have := HRG.out b hb; have := hS b hS'; omega)
   have hbx5 : ∀ p ∈ l, p.1.fields = [] ∧ MemG (fun k => (k < W1.heap.size ∨ (Value.slice (some ⟨b9, o9, none⟩) 13 cr).ownBlock = some k) ∨ w2.heap.size ≤ k) w5 p.2 p.1.meths := fun p hp => ⟨(HBX.out p hp).1, ((HBX.out p hp).2.only HAL.out (fun _ h => h.elim)).only hadd.only (fun b hb => by
    rcases hS b hb with h | h | h
    ·exact .inl (.inl (by omega))
    ·exact .inl (.inl (by omega))
    ·exact .inr h)⟩
   have hon5 := Only.trans (HON.out.trans HAL.out (fun _ h _ => h)) hadd.only (fun b hb hlt => by have := hS b hb; omega)
   have HG5 := hid hgp
   have HBR5 := hid hbr5
   have HBX5 := hid hbx5
   have HON5 := hid hon5
   clear hgp hbr5 hbx5 hon5 hS hsz hadd x0 x1 x2 r0 r1 r2
   go_wp2
   go_roundw
   case rel => exact ⟨j + 1, _, _, _, by go_num, by omega, HG5, HBR5, HBX5, HON5⟩
   case measure => simp [intOf]; omega
  ·have hjz : ¬ (j : Int) < 13 := by omega
   have hk13 : builtK.take j = builtK := List.take_of_length_le (by rw [builtK_len]; omega)
   obtain ⟨j0, hj0⟩ : ∃ j0, j = j0 := ⟨_, rfl⟩
   have hg0 := HG.out
   rw [hk13] at hg0
   have HG0 := hid hg0
   have HAL0 : Hid (Along w wr builtK (fun _ => .slice none 0 0) cl cs) := hid ⟨HON.out, (fun i b _ h => by cases h), fun i h1 h2 => by rw [builtK_len] at h2; omega⟩
   clear hg0 hk13 HG HBW HBX HON C1 hj0
   go_wp2
   go_loopw [24] (fun iv wr => ∃ (j : Nat) (vl : Value) (ivs : List Value) (fv : Nat → Value) (cl : Nat → ClassV), iv = .int .i64 j ∧ j ≤ cs.length ∧ Hid (Gath w2.heap.size wr (w.heap.size + 1) w.heap.size vl (builtK ++ (listK cs 0).take j) ivs fv cl) ∧ Hid (Along w wr (builtK ++ (listK cs 0).take j) fv cl cs)) (fun iv _ => cs.length - (intOf iv).toNat)
   case atStart => exact ⟨0, vl, ivs, _, cl, rfl, Nat.zero_le _, by rw [List.take_zero, List.append_nil]; exact HG0, by rw [List.take_zero, List.append_nil]; exact HAL0⟩
   case round =>
    obtain ⟨j, vl, ivs, fv, cl, rfl, hj, HG, HAN⟩ := hrel
    by_cases hlt : j < cs.length
    ·have hjz : (j : Int) < (cs.length : Int) := by omega
     have hj0 : (0 : Int) ≤ (j : Int) := by omega
     obtain ⟨b9, o9, rfl, hat⟩ := Sl.at HSL.out hlt
     have hcm := HCM.out j hlt
     obtain ⟨c, hcd⟩ : ∃ c, c = cs.getD j default := ⟨_, rfl⟩
     have hc0 := H0.out _ (getD_mem hlt)
     have hstp := take_stepK (l := listK cs 0) (j := j) (by rw [listK_len]; exact hlt)
     have hkl : (builtK ++ (listK cs 0).take j).length = 13 + j := by rw [List.length_append, builtK_len, take_lenK (by rw [listK_len]; omega)]
     rw [listK_at hlt, Nat.zero_add] at hstp
     rw [← hcd] at hat hcm hc0 hstp
     obtain ⟨ks, hks⟩ : ∃ ks, (builtK ++ (listK cs 0).take j) = ks := ⟨_, rfl⟩
     have hstp' : builtK ++ (listK cs 0).take (j + 1) = ks ++ [loadZ c j] := by rw [hstp, ← List.append_assoc, hks]
     rw [hks] at HG HAN hkl
     obtain ⟨al, cl9, rfl, -, -⟩ := slice_of_owns HG.out.row
     have hwr := HAN.out.only
     obtain ⟨c0, c1, c2, c3, c4⟩ := hat
     have hcm' : ClassM wr (f j).1 (f j).2.1 (f j).2.2 c := by obtain ⟨a, b, d, e, g⟩ := hcm; exact ⟨a.only hwr (fun _ _ h => h), b.only hwr, d.only hwr, e, g⟩
     generalize (f j).1 = vp at *
     generalize (f j).2.1 = vf at *
     generalize (f j).2.2 = vm at *
     obtain ⟨ap, cp, rfl, -⟩ := id hcm'.1
     obtain ⟨af, cf, rfl, -⟩ := id hcm'.2.1.1
     obtain ⟨gm, hgm, -, -⟩ := id hcm'.2.2.1
     obtain ⟨am, cm, rfl, -⟩ := id hgm
     clear hgm
     obtain ⟨r0, r1, r2, r3, r4⟩ := (⟨hwr.cell c0 (fun h => h), hwr.cell c1 (fun h => h), hwr.cell c2 (fun h => h), hwr.cell c3 (fun h => h), hwr.cell c4 (fun h => h)⟩ : _ ∧ _ ∧ _ ∧ _ ∧ _)
     have hfk := fine_load hc0 j
     obtain ⟨hfew, hf64, hm64⟩ := few_cls hc0
     have hal := (Only.refl (fun _ => False) wr).alloc (objCls c (.slice ap c.pool.length cp) (.slice af c.fields.length cf) (.slice am c.methods.length cm))
     have hbt := heap_alloc_new wr (objCls c (.slice ap c.pool.length cp) (.slice af c.fields.length cf) (.slice am c.methods.length cm))
     obtain ⟨x0, x1, x2, x3, x4⟩ := cells5T hbt
     have hob := hal.heap HG.out.obj (fun h => h)
     have y0 : (wr.alloc (objCls c (.slice ap c.pool.length cp) (.slice af c.fields.length cf) (.slice am c.methods.length cm))).cell? ⟨w.heap.size + 1, 0, none⟩ = some (.slice al ks.length cl9) := cell_blk hob 0
     have CN := hid (fun W (hW : Only (fun _ => False) wr W) => pNewListed c (.slice ap c.pool.length cp) (.slice af c.fields.length cf) (.slice am c.methods.length cm) ks.length W (by obtain ⟨a, b, d, e, g⟩ := hcm'; exact ⟨a.only hW (fun _ _ h => h), b.only hW, d.only hW, e, g⟩) hfew hf64 hm64)
     have hkz : ks.length ≤ 64 := by omega
     have HAL := hid hal
     have HFK := hid hfk
     have HKL := hid hkl
     have HST := hid hstp'
     have HCD := hid hcd
     clear hal hbt hob hfk hkl hstp hstp' hks hcm hcm' hc0 hfew hf64 hm64 hwr c0 c1 c2 c3 c4 hcd
     go_wp2
     have hSd : (wr.alloc (objCls c (.slice ap c.pool.length cp) (.slice af c.fields.length cf) (.slice am c.methods.length cm))).drew.cell? ⟨wr.heap.size, 0, none⟩ = some (.slice ap c.pool.length cp) ∧ (wr.alloc (objCls c (.slice ap c.pool.length cp) (.slice af c.fields.length cf) (.slice am c.methods.length cm))).drew.cell? ⟨wr.heap.size, 1, none⟩ = some (.int .i64 c.this) ∧ (wr.alloc (objCls c (.slice ap c.pool.length cp) (.slice af c.fields.length cf) (.slice am c.methods.length cm))).drew.cell? ⟨wr.heap.size, 2, none⟩ = some (.int .i64 c.super) ∧ (wr.alloc (objCls c (.slice ap c.pool.length cp) (.slice af c.fields.length cf) (.slice am c.methods.length cm))).drew.cell? ⟨wr.heap.size, 3, none⟩ = some (.slice af c.fields.length cf) ∧ (wr.alloc (objCls c (.slice ap c.pool.length cp) (.slice af c.fields.length cf) (.slice am c.methods.length cm))).drew.cell? ⟨wr.heap.size, 4, none⟩ = some (.slice am c.methods.length cm) ∧ (wr.alloc (objCls c (.slice ap c.pool.length cp) (.slice af c.fields.length cf) (.slice am c.methods.length cm))).drew.cell? ⟨w.heap.size + 1, 0, none⟩ = some (.slice al ks.length cl9) := ⟨x0, x1, x2, x3, x4, y0⟩
     refine wp_till 9 (fun wc => wc.cell? ⟨wr.heap.size, 0, none⟩ = some (.slice ap c.pool.length cp) ∧ wc.cell? ⟨wr.heap.size, 1, none⟩ = some (.int .i64 c.this) ∧ wc.cell? ⟨wr.heap.size, 2, none⟩ = some (.int .i64 c.super) ∧ wc.cell? ⟨wr.heap.size, 3, none⟩ = some (.slice af c.fields.length cf) ∧ wc.cell? ⟨wr.heap.size, 4, none⟩ = some (.slice am c.methods.length cm) ∧ wc.cell? ⟨w.heap.size + 1, 0, none⟩ = some (.slice al ks.length cl9)) (by kernel_rfl) ?_
     refine Till.take (i := 0) (v := ?_) (by simp only [List.getElem?_toArray, List.getElem?_cons_succ, List.getElem?_cons_zero]; rfl) (by kernel_rfl) (by kernel_rfl) (by kernel_rfl) (by kernel_rfl) (by kernel_rfl) (by exact fun _ _ _ h => h) (Or.inl ⟨by rfl, ?_⟩) (by assumption) ?_
     rotate_left 1
     ·(intro w h; (try dsimp only at h); go_simp; try with_reducible rfl)
     try simp only [Act.put, sIB, sC0, sCS]
     refine Till.via [7, 6, 5, 4, 3] (i := 2) (v := ?_) (by simp only [List.getElem?_toArray, List.getElem?_cons_succ, List.getElem?_cons_zero]; rfl) (by kernel_rfl) (by kernel_rfl) (by kernel_rfl) (by kernel_rfl) (by kernel_rfl) (by kernel_rfl) (by exact fun _ _ _ h => h) (Or.inl ⟨by rfl, ?_⟩) (by assumption) ?_
     rotate_left 1
     ·(intro w h; (try dsimp only at h); go_simp; try with_reducible rfl)
     try simp only [Act.put, sIB, sC0, sCS]
     refine Till.via [7, 6, 5, 4] (i := 3) (v := ?_) (by simp only [List.getElem?_toArray, List.getElem?_cons_succ, List.getElem?_cons_zero]; rfl) (by kernel_rfl) (by kernel_rfl) (by kernel_rfl) (by kernel_rfl) (by kernel_rfl) (by kernel_rfl) (by exact fun _ _ _ h => h) (Or.inl ⟨by rfl, ?_⟩) (by assumption) ?_
     rotate_left 1
     ·(intro w h; (try dsimp only at h); go_simp; try with_reducible rfl)
     try simp only [Act.put, sIB, sC0, sCS]
     refine Till.via [7, 6, 5] (i := 4) (v := ?_) (by simp only [List.getElem?_toArray, List.getElem?_cons_succ, List.getElem?_cons_zero]; rfl) (by kernel_rfl) (by kernel_rfl) (by kernel_rfl) (by kernel_rfl) (by kernel_rfl) (by kernel_rfl) (by exact fun _ _ _ h => h) (Or.inl ⟨by rfl, ?_⟩) (by assumption) ?_
     rotate_left 1
     ·(intro w h; (try dsimp only at h); go_simp; try with_reducible rfl)
     try simp only [Act.put, sIB, sC0, sCS]
     refine Till.via [7, 6] (i := 5) (v := ?_) (by simp only [List.getElem?_toArray, List.getElem?_cons_succ, List.getElem?_cons_zero]; rfl) (by kernel_rfl) (by kernel_rfl) (by kernel_rfl) (by kernel_rfl) (by kernel_rfl) (by kernel_rfl) (by exact fun _ _ _ h => h) (Or.inl ⟨by rfl, ?_⟩) (by assumption) ?_
     rotate_left 1
     ·(intro w h; (try dsimp only at h); go_simp; try with_reducible rfl)
     try simp only [Act.put, sIB, sC0, sCS]
     refine Till.via [7] (i := 6) (v := ?_) (by simp only [List.getElem?_toArray, List.getElem?_cons_succ, List.getElem?_cons_zero]; rfl) (by kernel_rfl) (by kernel_rfl) (by kernel_rfl) (by kernel_rfl) (by kernel_rfl) (by kernel_rfl) (by exact fun _ _ _ h => h) (Or.inl ⟨by rfl, ?_⟩) (by assumption) ?_
     rotate_left 1
     ·(intro w h; (try dsimp only at h); go_simp; try with_reducible rfl)
     try simp only [Act.put, sIB, sC0, sCS]
     refine Till.via [7] (i := 1) (v := ?_) (by simp only [List.getElem?_toArray, List.getElem?_cons_succ, List.getElem?_cons_zero]; rfl) (by kernel_rfl) (by kernel_rfl) (by kernel_rfl) (by kernel_rfl) (by kernel_rfl) (by kernel_rfl) (by exact fun _ _ _ h => h) (Or.inl ⟨by rfl, ?_⟩) (by assumption) ?_
     rotate_left 1
     ·(intro w h; (try dsimp only at h); go_simp; try with_reducible rfl)
     try simp only [Act.put, sIB, sC0, sCS]
     refine Till.step (i := 7) (by kernel_rfl) (by simp only [List.getElem?_toArray, List.getElem?_cons_succ, List.getElem?_cons_zero]; rfl) (fun K hK => ?_)
     go_simp
     (refine (CN.out _ HAL.out.drew).mono ?_; rintro e5 w5 ⟨lb, A, B, D, vof, vom, rfl, hlt5⟩; have HC5 := hid ((Only.refl (fun _ => False) _).drew.trans hlt5.only (fun _ h _ => h)); have hSd5 : w5.cell? ⟨wr.heap.size, 0, none⟩ = some (.slice ap c.pool.length cp) ∧ w5.cell? ⟨wr.heap.size, 1, none⟩ = some (.int .i64 c.this) ∧ w5.cell? ⟨wr.heap.size, 2, none⟩ = some (.int .i64 c.super) ∧ w5.cell? ⟨wr.heap.size, 3, none⟩ = some (.slice af c.fields.length cf) ∧ w5.cell? ⟨wr.heap.size, 4, none⟩ = some (.slice am c.methods.length cm) ∧ w5.cell? ⟨w.heap.size + 1, 0, none⟩ = some (.slice al ks.length cl9) := ⟨HC5.out.cell x0 (fun h => h), HC5.out.cell x1 (fun h => h), HC5.out.cell x2 (fun h => h), HC5.out.cell x3 (fun h => h), HC5.out.cell x4 (fun h => h), HC5.out.cell y0 (fun h => h)⟩; have HLT := hid hlt5; have HW5 := hid (HAL.out.trans HC5.out (fun _ h _ => h)); clear hlt5)
     go_wp2_with fail
     refine hK.out _ _ ?_ ?_
     ·exact fun _ => hSd5
     clear hK K
     try simp only [Act.put, sIB, sC0, sCS]
     refine Till.take (i := 8) (v := ?_) (by simp only [List.getElem?_toArray, List.getElem?_cons_succ, List.getElem?_cons_zero]; rfl) (by kernel_rfl) (by kernel_rfl) (by kernel_rfl) (by kernel_rfl) (by kernel_rfl) (by exact fun _ _ _ h => h) (Or.inl ⟨by rfl, ?_⟩) (by assumption) ?_
     rotate_left 1
     ·(intro w h; (try dsimp only at h); go_simp; try with_reducible rfl)
     try simp only [Act.put, sIB, sC0, sCS]
     refine Till.step (i := 9) (by kernel_rfl) (by simp only [List.getElem?_toArray, List.getElem?_cons_succ, List.getElem?_cons_zero]; rfl) (fun K hK => ?_)
     go_simp
     (have hwd : wr.heap.size ≤ (wr.alloc (objCls c (.slice ap c.pool.length cp) (.slice af c.fields.length cf) (.slice am c.methods.length cm))).drew.heap.size := HAL.out.drew.size; have hG5 := HG.out.only HW5.out; have hkn : KnownG (fun b => b < (wr.alloc (objCls c (.slice ap c.pool.length cp) (.slice af c.fields.length cf) (.slice am c.methods.length cm))).drew.heap.size ∨ vof.ownBlock = some b) w5 ks.length (.iface 94 (.pointer (some ⟨lb, 0, none⟩))) (loadZ c j) c vof := .inr ⟨by have := HKL.out; omega, by rw [HKL.out, show 13 + j - 13 = j by omega], lb, A, B, D, vom, rfl, (fun hb => hb.elim (fun h => by have := HLT.out.base; omega) (fun h => (HLT.out.own lb h).2.2 rfl)), by have h := HLT.out.obj; rw [HKL.out]; rw [HKL.out] at h; exact h, HLT.out.cls, HLT.out.meths⟩; obtain ⟨T9, v9, vom9, ht⟩ := hkn.told; obtain ⟨heq, ⟨nn, hask⟩, -, -, -, -⟩ := ht; injection heq with heq1 heq2; subst heq1; subst heq2; have CA := hid (pAdd hG5.obj hG5.names hG5.row hG5.base hG5.ne hask (by have := HFK.out.name; unfold maxLen; omega) (by have := HKL.out; omega)); have HKN := hid hkn; clear hkn hG5 hask; refine CA.out.mono ?_; rintro e6 w6 ⟨rfl, vl', hadd⟩; have HADD := hid hadd; clear hadd)
     go_wp2_with fail
     refine hK.out _ _ ?_ ?_
     ·exact fun h => by cases h
     clear hK K
     try simp only [Act.put, sIB, sC0, sCS]
     refine Till.done (by kernel_rfl) ?_ _
     clear hSd hSd5 x0 x1 x2 x3 x4 y0 r0 r1 r2 r3 r4
     have hwd : wr.heap.size ≤ (wr.alloc (objCls c (.slice ap c.pool.length cp) (.slice af c.fields.length cf) (.slice am c.methods.length cm))).drew.heap.size := HAL.out.drew.size
     have hgp := HG.out.push HW5.out HADD.out HKN.out (fun b hb => hb.imp (fun h => Nat.lt_of_lt_of_le (HG.out.lt h) hwd) id) HLT.out.flds (fun b hb => ⟨Nat.le_trans hwd (HLT.out.own b hb).1, (HLT.out.own b hb).2.1⟩)
     have hlow : ∀ b, (b = w.heap.size + 1 ∨ b = w.heap.size ∨ (Value.slice al ks.length cl9).ownBlock = some b) → w.heap.size ≤ b := fun b hb => by
      have h2 := HSZ.out
      rcases hb with h | h | h
      ·omega
      ·omega
      ·have := (World.ownsRow.lt HG.out.row b h).1
       omega
     have han : Along w w6 (ks ++ [loadZ c j]) (setV fv ks.length vof) (setV cl ks.length c) cs := by
      have h1 := HAN.out.only.size
      refine ⟨Only.trans (HAN.out.only.trans HW5.out (fun _ h _ => h)) HADD.out.only (fun b hb hl => by have := hlow b hb; omega), fun i b hi hb => ?_, fun i h13 hi => ?_⟩
      ·rw [List.length_append] at hi
       by_cases hin : i = ks.length
       ·subst hin
        rw [setV_at] at hb
        have := (HLT.out.own b hb).1
        omega
       ·rw [setV_lt _ _ (by simp at hi; omega)] at hb
        exact HAN.out.own i b (by simp at hi; omega) hb
      ·rw [List.length_append] at hi
       by_cases hin : i = ks.length
       ·subst hin
        rw [setV_at, HCD.out, HKL.out]
        congr 1
        omega
       ·rw [setV_lt _ _ (by simp at hi; omega)]
        exact HAN.out.cls i h13 (by simp at hi; omega)
     have HG6 := hid hgp
     have HAN6 := hid han
     clear hgp han hlow hwd
     go_wp2
     go_roundw
     case rel => exact ⟨j + 1, _, _, _, _, by go_num, by omega, by rw [HST.out]; exact HG6, by rw [HST.out]; exact HAN6⟩
     case measure => simp [intOf]; omega
    ·have hje : cs.length = j := by omega
     subst hje
     have htk : (listK cs 0).take cs.length = listK cs 0 := List.take_of_length_le (Nat.le_of_eq (listK_len _ _))
     have hgf := HG.out
     have haf := HAN.out
     rw [htk] at hgf haf
     have HGF := hid hgf.prog
     have HAF := hid haf
     clear hgf haf htk
     go_wp2
     go_ret
     exact ⟨_, _, _, rfl, by omega, HGF.out, HAF.out⟩
end Go.Proofs.YtemplkpcckmcoaaGreatDoor
namespace Go.Proofs.YtemplkpcckmcoaaGreatDoor
set_option maxHeartbeats 16000000
open Lib (hid)
open Go.RowKit Go.Extern.Stop Go.Stop Go.Extern
set_option linter.unusedVariables false
set_option linter.unusedSimpArgs false
theorem asFault (p k : Int) (t : Addr) (old : Value) (w : World) (hg : ErrV w) (ht0 : w.cell? t = some old) (hf0 : w.frozen? t = false) :
  Calls Tryz.prog 120 #[.iface 183 (.agg #[.int .i64 p, .int .i64 k]), .iface 180 (.pointer (some t))] w fun ev w' => ev = .returned (.bool true) ∧
   w' = (((((w.alloc (.cells #[.pointer (some t)] 180)).alloc (.cells #[.pointer (some ⟨4, 180, none⟩), .pointer (some ⟨w.heap.size, 0, none⟩), .int .u64 150] 199)).alloc (.cells #[.pointer (some ⟨4, 180, none⟩), .pointer (some ⟨w.heap.size, 0, none⟩), .int .u64 150] 199)).alloc (.cells #[.int .i64 p, .int .i64 k] 183)).alloc (.cells #[.int .i64 k] 24)).setCell t (.int .i64 k) := by
 have h6 := @run_callFunc_extern Tryz.prog 137 _ (fun args => ReflectliteValue.unpack (args.getD 0 (.tuple #[]))) Tryz.func137 (by kernel_rfl) (by kernel_rfl) (by kernel_rfl) (by kernel_rfl)
 have h7 := @run_callFunc_extern Tryz.prog 138 _ (ReflectliteValue.methodAny (ReflectliteValue.valueError "reflectlite.Value.Type" 0) (fun t _ _ _ => ReflectliteType.toType t)) Tryz.func138 (by kernel_rfl) (by kernel_rfl) (by kernel_rfl) (by kernel_rfl)
 have h8 := @run_callFunc_extern Tryz.prog 139 _ (ReflectliteValue.method (ReflectliteValue.valueError "reflectlite.Value.IsNil" 0) ReflectliteValue.isNil) Tryz.func139 (by kernel_rfl) (by kernel_rfl) (by kernel_rfl) (by kernel_rfl)
 have h27 := @run_callFunc_extern Tryz.prog 198 _ (ReflectliteType.abiMethod fun t => do pure (.int .u8 (← Rtype.kind t))) Tryz.func198 (by kernel_rfl) (by kernel_rfl) (by kernel_rfl) (by kernel_rfl)
 have h37 := @run_callFunc_extern Tryz.prog 217 _ (ReflectliteType.method ReflectliteType.elem) Tryz.func217 (by kernel_rfl) (by kernel_rfl) (by kernel_rfl) (by kernel_rfl)
 have h38 := @run_callFunc_extern Tryz.prog 218 _ (ReflectliteType.relation "Implements" ReflectliteType.implements_) Tryz.func218 (by kernel_rfl) (by kernel_rfl) (by kernel_rfl) (by kernel_rfl)
 have h10 := @run_callFunc_extern Tryz.prog 152 _ ReflectliteType.typeOf Tryz.func152 (by kernel_rfl) (by kernel_rfl) (by kernel_rfl) (by kernel_rfl)
 have h35 := @run_callFunc_extern Tryz.prog 215 _ (ReflectliteType.relation "AssignableTo" ReflectliteType.assignableTo) Tryz.func215 (by kernel_rfl) (by kernel_rfl) (by kernel_rfl) (by kernel_rfl)
 have h11 := @run_callFunc_extern Tryz.prog 153 _ (ReflectliteValue.method (ReflectliteValue.valueError "reflectlite.Value.Elem" 0) ReflectliteValue.elem) Tryz.func153 (by kernel_rfl) (by kernel_rfl) (by kernel_rfl) (by kernel_rfl)
 have h12 := @run_callFunc_extern Tryz.prog 154 _ ReflectliteValue.set Tryz.func154 (by kernel_rfl) (by kernel_rfl) (by kernel_rfl) (by kernel_rfl)
 have tO := asTypeOfE
 have tF := asTypeOfF
 have mA := asMethodAssignable
 have aE := asAssignE
 have aF := asAssignF
 have vE := asValE
 have f6 := asValP
 have f7 := asTypeP
 have mK := asMethodKind
 have mE := asMethodElem
 have mI := asMethodImplements
 have mU := asMethodUnwrap
 have kP := asKindP
 have kE := asKindE
 have eP := asElemP
 have iE := asImplements
 have nA := asNoAsF
 have uF := asHasUnwrapF
 have n8 := asIsNilP ⟨w.heap.size, 0, none⟩ t ((w.alloc (.cells #[.pointer (some t)] 180)).alloc (.cells #[.pointer (some ⟨4, 180, none⟩), .pointer (some ⟨w.heap.size, 0, none⟩), .int .u64 150] 199)) (by simp)
 have hg2 : ((w.alloc (.cells #[.pointer (some t)] 180)).alloc (.cells #[.pointer (some ⟨4, 180, none⟩), .pointer (some ⟨w.heap.size, 0, none⟩), .int .u64 150] 199)).cell? ⟨0, 0, none⟩ = some (.iface 220 (.agg #[.pointer (some ⟨4, 166, none⟩)])) :=
  ErrV.only hg (((Only.refl (fun _ => False) w).alloc _).alloc _) (fun h => h)
 have htl : t.block < w.heap.size := World.block_lt_of_cell? w _ ht0
 have el := asElemV ⟨w.heap.size, 0, none⟩ t ((((w.alloc (.cells #[.pointer (some t)] 180)).alloc (.cells #[.pointer (some ⟨4, 180, none⟩), .pointer (some ⟨w.heap.size, 0, none⟩), .int .u64 150] 199)).alloc (.cells #[.pointer (some ⟨4, 180, none⟩), .pointer (some ⟨w.heap.size, 0, none⟩), .int .u64 150] 199)).alloc (.cells #[.int .i64 p, .int .i64 k] 183))
  (((((Only.refl (fun _ => False) _).alloc _).alloc _).alloc _).cell (cell_blk (heap_alloc_new w (.cells #[.pointer (some t)] 180)) 0) (fun h => h))
 have hoA : Only (fun _ => False) w (((((w.alloc (.cells #[.pointer (some t)] 180)).alloc (.cells #[.pointer (some ⟨4, 180, none⟩), .pointer (some ⟨w.heap.size, 0, none⟩), .int .u64 150] 199)).alloc (.cells #[.pointer (some ⟨4, 180, none⟩), .pointer (some ⟨w.heap.size, 0, none⟩), .int .u64 150] 199)).alloc (.cells #[.int .i64 p, .int .i64 k] 183)).alloc (.cells #[.int .i64 k] 24)) :=
  (((((Only.refl _ w).alloc _).alloc _).alloc _).alloc _).alloc _
 have st := asSet t ⟨w.heap.size + 1 + 1 + 1 + 1, 0, none⟩ k old _ (by rw [World.cell?_alloc_at _ _ _ _ (by simp)]; rfl) (hoA.cell ht0 (fun h => h)) (by
  rw [World.frozen?_alloc_old _ _ t (by simp; omega), World.frozen?_alloc_old _ _ t (by simp; omega), World.frozen?_alloc_old _ _ t (by simp; omega), World.frozen?_alloc_old _ _ t (by simp; omega), World.frozen?_alloc_old _ _ t (Nat.ne_of_lt htl)]; exact hf0)
 clear hoA
 go_enter Tryz.func120, Tryz.ntmps120
 go_wp2
 refine wp_loop_rounds 2 ?_
 rw [rounds_succ]
 go_wp2
 rw [rounds_succ]
 go_wp2
 go_ret
 exact ⟨rfl, rfl⟩
theorem whichFault (p k : Int) (w : World) (hg : ErrV w) :
  Calls Tryz.prog 98 #[.iface 183 (.agg #[.int .i64 p, .int .i64 k])] w fun e w' => e = .returned (.int .i64 k) ∧ Only (fun _ => False) w w' := by
 have hg1 := hg.only ((Only.refl (fun _ => False) w).alloc (.cells #[.int .i64 0] 24)) (fun h => h)
 have cA := asFault p k ⟨w.heap.size, 0, none⟩ (.int .i64 0) (w.alloc (.cells #[.int .i64 0] 24)) hg1 (by simp) (by simp)
 go_enter Tryz.func98, Tryz.ntmps98
 go_wp2_with (fail)
 refine cA.mono ?_
 rintro e w1 ⟨rfl, rfl⟩
 clear cA
 go_wp2
 go_ret
 refine ⟨rfl, ?_⟩
 repeat (first | exact Only.refl _ _ | refine Only.alloc ?_ _ | refine Only.setCell ?_ (fun hl => absurd hl (by simp)) _)
end Go.Proofs.YtemplkpcckmcoaaGreatDoor
