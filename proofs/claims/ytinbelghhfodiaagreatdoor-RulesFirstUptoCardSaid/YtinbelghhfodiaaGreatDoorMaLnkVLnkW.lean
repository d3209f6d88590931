import Derived.Test.YtinbelghhfodiaaGreatDoorMaTkH
import Derived.Test.YtinbelghhfodiaaGreatDoorMaClsAKndL
import Derived.Test.YtinbelghhfodiaaGreatDoorMaPrsBig
import Derived.Test.YtinbelghhfodiaaGreatDoorMaLpJKndSh
import Derived.Test.YtinbelghhfodiaaGreatDoorMaLnkHLnkN
import Derived.Deep.RegionHeld3
namespace Go.Proofs.YtinbelghhfodiaaGreatDoor
set_option maxHeartbeats 16000000
open Lib (hid)
open Go.RowKit
set_option linter.unusedVariables false
set_option linter.unusedSimpArgs false
def cellsMe (m : MethN) : List Value := [.string m.name, .string m.desc, .int .i64 m.flags]
def MeRow (w : World) (B : Nat) (v : Value) (l : List MethN) : Prop := w.ownsRow B 95 3 v l.length (l.flatMap cellsMe)
theorem cellsMe_at : ∀ {cs : List MethN} {i d : Nat}, i < cs.length → d < 3 → (cs.flatMap cellsMe)[i * 3 + d]? = (cellsMe (cs.getD i default))[d]?
 | c :: r, 0, d, _, hd => by
  rw [List.flatMap_cons, List.getElem?_append_left (by simp [cellsMe]; omega)]
  simp
 | c :: r, i + 1, d, hi, hd => by
  rw [List.flatMap_cons, List.getElem?_append_right (by simp [cellsMe]; omega)]
  have : (i + 1) * 3 + d - (cellsMe c).length = i * 3 + d := by simp [cellsMe]; omega
  rw [this, cellsMe_at (by simpa using hi) hd]
  simp
theorem MeRow.meths {w : World} {B : Nat} {v : Value} {cs : List MethN} (h : MeRow w B v cs) : MethNs w v cs := by
 rcases h.2 with ⟨rfl, hn⟩ | ⟨g, cap, cur, rfl, hb, hg, hnc, hcm, hcs, htake⟩
 ·have : cs = [] := List.eq_nil_of_length_eq_zero hn
  subst this
  exact Sl.nil _
 ·refine ⟨_, cap, rfl, hnc, by unfold maxLen at hcm; omega, (fun e => by cases e), fun x hx _ => ?_⟩
  cases hx
  refine ⟨g, 0, rfl, fun i hi => ?_⟩
  have hc : ∀ d, d < 3 → w.cell? ⟨g, 0 + i * 3 + d, none⟩ = (cellsMe (cs.getD i default))[d]? := fun d hd => by
   rw [Nat.zero_add, ← cellsMe_at hi hd]
   exact (show w.ownsRow B _ 3 _ _ _ from h).cellAt (g := g) (cap := cap) (i * 3 + d) (by omega)
  exact ⟨hc 0 (by decide), hc 1 (by decide), hc 2 (by decide)⟩
theorem MeRow.only {S : Nat → Prop} {w w' : World} {B : Nat} {v : Value} {cs : List MethN} (h : MeRow w B v cs) (ho : Only S w w') (hs : ∀ k, v.ownBlock = some k → ¬ S k) : MeRow w' B v cs := ho.owns h hs
theorem MeRow.ge {w : World} {B : Nat} {v : Value} {cs : List MethN} (h : MeRow w B v cs) : ∀ k, v.ownBlock = some k → B ≤ k ∧ k < w.heap.size := fun k hk => World.ownsRow.lt h k hk
theorem MeRow.nil (w : World) (B : Nat) : MeRow w B (.slice none 0 0) [] := World.ownsRow_nil _ _ _ _
theorem MeRow.slice {w : World} {B : Nat} {v : Value} {l : List MethN} (h : MeRow w B v l) : ∃ ao cap, v = .slice ao l.length cap := by
 obtain ⟨ao, cap, e, -⟩ := slice_of_owns h
 exact ⟨ao, cap, e⟩
theorem MeRow.more {w3 : World} {B : Nat} {v' : Value} {cs : List MethN} {c : MethN} (hown : w3.ownsRow B 95 3 v' (cs.length + 1) (cs.flatMap cellsMe ++ cellsMe c)) : MeRow w3 B v' (cs ++ [c]) := by
 unfold MeRow
 rw [List.length_append, List.flatMap_append]
 simpa using hown
theorem Src.methn {w : World} {m : Nat} (c : MethN) (h : w.heap.size = m) : Src (w.alloc (.cells #[.string c.name, .string c.desc, .int .i64 c.flags] 95)) 3 (.slice (some ⟨m, 0, none⟩) 1 1) 1 (cellsMe c) := by
 subst h
 refine ⟨rfl, ?_, _, 1, rfl, (fun e => by cases e), fun ad hd j u hj => ?_⟩
 ·intro x hx
  simp only [cellsMe, List.mem_cons, List.mem_nil_iff, or_false] at hx
  rcases hx with rfl | rfl | rfl <;> rfl
 ·cases hd
  rw [add_lit, Nat.zero_add, cell_blk (heap_alloc_new w _)]
  simpa [cellsMe] using hj
theorem info_methn : (Tryz.prog.info? 95).map (fun i => (i.zero, i.size, i.bytes)) = some (some (.agg #[.string ⟨#[]⟩, .string ⟨#[]⟩, .int .i64 0]), 3, 40) := by kernel_rfl
structure KdV where
 k : KindV
 vf : Value
 vm : Value
instance : Inhabited KdV := ⟨⟨default, .slice none 0 0, .slice none 0 0⟩⟩
def cellsKd (x : KdV) : List Value := [.string x.k.name, .string x.k.super, x.vf, x.vm, .int .i64 x.k.place]
def KdRow (w : World) (B : Nat) (v : Value) (l : List KdV) : Prop := w.ownsRow B 77 5 v l.length (l.flatMap cellsKd)
theorem cellsKd_at : ∀ {cs : List KdV} {i d : Nat}, i < cs.length → d < 5 → (cs.flatMap cellsKd)[i * 5 + d]? = (cellsKd (cs.getD i default))[d]?
 | c :: r, 0, d, _, hd => by
  rw [List.flatMap_cons, List.getElem?_append_left (by simp [cellsKd]; omega)]
  simp
 | c :: r, i + 1, d, hi, hd => by
  rw [List.flatMap_cons, List.getElem?_append_right (by simp [cellsKd]; omega)]
  have : (i + 1) * 5 + d - (cellsKd c).length = i * 5 + d := by simp [cellsKd]; omega
  rw [this, cellsKd_at (by simpa using hi) hd]
  simp
def KdS (w : World) (v : Value) (l : List KdV) : Prop := Sl v l.length (fun b o i => KindAt w b o i (l.getD i default).k (l.getD i default).vf (l.getD i default).vm)
theorem KdRow.kds {w : World} {B : Nat} {v : Value} {cs : List KdV} (h : KdRow w B v cs) : KdS w v cs := by
 rcases h.2 with ⟨rfl, hn⟩ | ⟨g, cap, cur, rfl, hb, hg, hnc, hcm, hcs, htake⟩
 ·have : cs = [] := List.eq_nil_of_length_eq_zero hn
  subst this
  exact Sl.nil _
 ·refine ⟨_, cap, rfl, hnc, by unfold maxLen at hcm; omega, (fun e => by cases e), fun x hx _ => ?_⟩
  cases hx
  refine ⟨g, 0, rfl, fun i hi => ?_⟩
  have hc : ∀ d, d < 5 → w.cell? ⟨g, 0 + i * 5 + d, none⟩ = (cellsKd (cs.getD i default))[d]? := fun d hd => by
   rw [Nat.zero_add, ← cellsKd_at hi hd]
   exact (show w.ownsRow B _ 5 _ _ _ from h).cellAt (g := g) (cap := cap) (i * 5 + d) (by omega)
  exact ⟨hc 0 (by decide), hc 1 (by decide), hc 2 (by decide), hc 3 (by decide), hc 4 (by decide)⟩
theorem KdRow.only {S : Nat → Prop} {w w' : World} {B : Nat} {v : Value} {cs : List KdV} (h : KdRow w B v cs) (ho : Only S w w') (hs : ∀ k, v.ownBlock = some k → ¬ S k) : KdRow w' B v cs := ho.owns h hs
theorem KdRow.ge {w : World} {B : Nat} {v : Value} {cs : List KdV} (h : KdRow w B v cs) : ∀ k, v.ownBlock = some k → B ≤ k ∧ k < w.heap.size := fun k hk => World.ownsRow.lt h k hk
theorem KdRow.slice {w : World} {B : Nat} {v : Value} {l : List KdV} (h : KdRow w B v l) : ∃ ao cap, v = .slice ao l.length cap := by
 obtain ⟨ao, cap, e, -⟩ := slice_of_owns h
 exact ⟨ao, cap, e⟩
theorem KdRow.more {w3 : World} {B : Nat} {v' : Value} {cs : List KdV} {c : KdV} (hown : w3.ownsRow B 77 5 v' (cs.length + 1) (cs.flatMap cellsKd ++ cellsKd c)) : KdRow w3 B v' (cs ++ [c]) := by
 unfold KdRow
 rw [List.length_append, List.flatMap_append]
 simpa using hown
theorem Src.kind {w : World} {m : Nat} (n s : ByteArray) (vf vm : Value) (p : Int) (x : KdV) (hx : cellsKd x = [.string n, .string s, vf, vm, .int .i64 p]) (hf : vf.oneCell' = true) (hm : vm.oneCell' = true) (h : w.heap.size = m) : Src (w.alloc (.cells #[.string n, .string s, vf, vm, .int .i64 p] 77)) 5 (.slice (some ⟨m, 0, none⟩) 1 1) 1 (cellsKd x) := by
 subst h
 rw [hx]
 refine ⟨rfl, ?_, _, 1, rfl, (fun e => by cases e), fun ad hd j u' hj => ?_⟩
 ·intro x hx
  simp only [List.mem_cons, List.mem_nil_iff, or_false] at hx
  rcases hx with rfl | rfl | rfl | rfl | rfl
  ·rfl
  ·rfl
  ·exact hf
  ·exact hm
  ·rfl
 ·cases hd
  rw [add_lit, Nat.zero_add, cell_blk (heap_alloc_new w _)]
  simpa using hj
theorem info_kindd : (Tryz.prog.info? 77).map (fun i => (i.zero, i.size, i.bytes)) = some (some (.agg #[.string ⟨#[]⟩, .string ⟨#[]⟩, .slice none 0 0, .slice none 0 0, .int .i64 0]), 5, 88) := by kernel_rfl
theorem KdS.kinds {w : World} {v : Value} {l : List KdV} (h : KdS w v l) (hm : ∀ x ∈ l, MethNs w x.vf x.k.fields ∧ MethNs w x.vm x.k.meths) : Kinds w v (l.map KdV.k) := by
 have hg : ∀ i, i < l.length → (l.map KdV.k).getD i default = (l.getD i default).k := fun i hi => by simp [List.getD, hi]
 refine ⟨fun i => ((l.getD i default).vf, (l.getD i default).vm), ?_, fun i hi => ?_⟩
 ·rw [List.length_map]
  exact h.imp (fun b o i _ hi hk => by rw [hg i hi]; exact hk)
 ·rw [List.length_map] at hi
  rw [hg i hi]
  refine hm _ ?_
  rw [show l.getD i default = l[i] by simp [List.getD, hi]]
  exact List.getElem_mem hi
theorem row_apart {w : World} {B B' : Nat} {v u : Value} {l : List KdV} {ms : List MethN} (h : KdRow w B v l) (m : MeRow w B' u ms) : ∀ k, u.ownBlock = some k → v.ownBlock ≠ some k := fun k hu hv => by
 rcases h.2 with ⟨rfl, -⟩ | ⟨g, cap, cur, rfl, -, hg, -⟩
 ·cases hv
 ·rcases m.2 with ⟨rfl, -⟩ | ⟨g', cap', cur', rfl, -, hg', -⟩
  ·cases hu
  ·have e1 : g = k := Option.some.inj hv
   have e2 : g' = k := Option.some.inj hu
   subst e1
   subst e2
   rw [hg] at hg'
   injection hg' with hg'
   injection hg' with _ ht _
   exact absurd ht (by decide)
structure KdsIn (w : World) (B : Nat) (v : Value) (l : List KdV) : Prop where
 row : KdRow w B v l
 mem : ∀ x ∈ l, MeRow w B x.vf x.k.fields ∧ MeRow w B x.vm x.k.meths
theorem KdsIn.only {w w' : World} {B : Nat} {v : Value} {l : List KdV} (h : KdsIn w B v l) (ho : Only (fun _ => False) w w') : KdsIn w' B v l := ⟨h.row.only ho (fun _ _ h => h), fun x hx => ⟨(h.mem x hx).1.only ho (fun _ _ h => h), (h.mem x hx).2.only ho (fun _ _ h => h)⟩⟩
theorem KdsIn.turn {w w' : World} {B : Nat} {v v' : Value} {l l' : List KdV} (h : KdsIn w B v l) (ho : Only (fun k => v.ownBlock = some k) w w') (hr : KdRow w' B v' l') (hm : ∀ x ∈ l', ∃ y, (y ∈ l ∨ MeRow w B y.vf y.k.fields ∧ MeRow w B y.vm y.k.meths) ∧ x.vf = y.vf ∧ x.vm = y.vm ∧ x.k.fields = y.k.fields ∧ x.k.meths = y.k.meths) : KdsIn w' B v' l' := ⟨hr, fun x hx => by
 obtain ⟨y, hy, e1, e2, e3, e4⟩ := hm x hx
 have hb : MeRow w B y.vf y.k.fields ∧ MeRow w B y.vm y.k.meths := by
  rcases hy with hy | hy
  ·exact h.mem y hy
  ·exact hy
 rw [e1, e2, e3, e4]
 exact ⟨hb.1.only ho (row_apart h.row hb.1), hb.2.only ho (row_apart h.row hb.2)⟩⟩
theorem KdsIn.push {w w' : World} {B : Nat} {v v' : Value} {l : List KdV} {x : KdV} (h : KdsIn w B v l) (hx : MeRow w B x.vf x.k.fields ∧ MeRow w B x.vm x.k.meths) (ho : Only (fun k => v.ownBlock = some k) w w') (hr : KdRow w' B v' (l ++ [x])) : KdsIn w' B v' (l ++ [x]) :=
 h.turn ho hr (fun y hy => by
  rcases List.mem_append.1 hy with hy | hy
  ·exact ⟨y, .inl hy, rfl, rfl, rfl, rfl⟩
  ·rw [List.mem_singleton.1 hy]; exact ⟨x, .inr hx, rfl, rfl, rfl, rfl⟩)
theorem KdsIn.kinds {w : World} {B : Nat} {v : Value} {l : List KdV} (h : KdsIn w B v l) : Kinds w v (l.map KdV.k) := h.row.kds.kinds (fun x hx => ⟨(h.mem x hx).1.meths, (h.mem x hx).2.meths⟩)
theorem MeRow.lower {w : World} {B B' : Nat} {v : Value} {l : List MethN} (h : MeRow w B v l) (hb : B' ≤ B) : MeRow w B' v l := World.ownsRow.mono h hb
def zeroP (k : KindV) : KindV := { k with place := 0 }
def firstKd (a b c d : Nat) : List KdV := [⟨zeroP (builtK.getD 0 default), .slice none 0 0, .slice (some ⟨a, 0, none⟩) 4 4⟩, ⟨zeroP (builtK.getD 1 default), .slice none 0 0, .slice (some ⟨b, 0, none⟩) 1 1⟩, ⟨zeroP (builtK.getD 2 default), .slice none 0 0, .slice (some ⟨c, 0, none⟩) 4 4⟩, ⟨zeroP (builtK.getD 3 default), .slice none 0 0, .slice (some ⟨d, 0, none⟩) 3 3⟩]
def putP (x : KdV) : KdV := ⟨{ x.k with place := -1 }, x.vf, x.vm⟩
theorem flat_put : ∀ {l : List KdV} {i : Nat}, i < l.length → (l.flatMap cellsKd).set (i * 5 + 4) (.int .i64 (-1)) = (l.set i (putP (l.getD i default))).flatMap cellsKd
 | x :: r, 0, _ => rfl
 | x :: r, i + 1, h => by
  have ih := flat_put (l := r) (i := i) (by simpa using h)
  rw [List.flatMap_cons, List.set_cons_succ, List.flatMap_cons]
  rw [show (x :: r).getD (i + 1) default = r.getD i default from rfl, ← ih]
  show (cellsKd x ++ r.flatMap cellsKd).set ((i + 1) * 5 + 4) _ = _
  rw [List.set_append_right _ _ (show 5 ≤ (i + 1) * 5 + 4 by omega)]
  congr 2
  show (i + 1) * 5 + 4 - 5 = i * 5 + 4
  omega
theorem KdRow.put {w : World} {B b cap : Nat} {l : List KdV} (h : KdRow w B (.slice (some ⟨b, 0, none⟩) l.length cap) l) {i : Nat} (hi : i < l.length) : KdRow (w.setCell ⟨b, i * 5 + 4, none⟩ (.int .i64 (-1))) B (.slice (some ⟨b, 0, none⟩) l.length cap) (l.set i (putP (l.getD i default))) := by
 have := (World.ownsRow.stored h (i * 5 + 4) (.int .i64 (-1))).1
 unfold KdRow
 rw [List.length_set, ← flat_put hi]
 exact this
theorem put_take {l2 : List KdV} (h13 : l2.length = 13) {j : Nat} (h : l2.map KdV.k = builtK.take j ++ (builtK.drop j).map zeroP) (hj : j < 13) : (l2.set j (putP (l2.getD j default))).map KdV.k = builtK.take (j + 1) ++ (builtK.drop (j + 1)).map zeroP := by
 have hb : j < builtK.length := by rw [builtK_len]; exact hj
 have hk : (l2.getD j default).k = zeroP builtK[j] := by
  have h2 : (l2.map KdV.k)[j]? = (builtK.take j ++ (builtK.drop j).map zeroP)[j]? := by rw [h]
  rw [List.getElem?_map, List.getElem?_append_right (by rw [List.length_take]; omega), List.length_take, Nat.min_eq_left (Nat.le_of_lt hb), Nat.sub_self, List.getElem?_map, List.getElem?_drop, Nat.add_zero, List.getElem?_eq_getElem hb, List.getElem?_eq_getElem (show j < l2.length by omega)] at h2
  rw [show l2.getD j default = l2[j] by simp [List.getD, show j < l2.length by omega]]
  exact Option.some.inj h2
 have hp : ∀ i, (hi : i < builtK.length) → builtK[i].place = -1 := by decide
 have hz : (putP (l2.getD j default)).k = builtK[j] := by
  show ({ (l2.getD j default).k with place := -1 } : KindV) = _
  rw [hk]
  have := hp j hb
  show ({ builtK[j] with place := -1 } : KindV) = builtK[j]
  rw [← this]
 rw [List.map_set, h, hz, List.take_succ_eq_append_getElem hb, List.drop_eq_getElem_cons hb, List.map_cons, List.set_append_right _ _ (by rw [List.length_take]; omega), List.length_take, Nat.min_eq_left (Nat.le_of_lt hb), Nat.sub_self, List.set_cons_zero, List.append_assoc]
 rfl
def RefBuiltTo (w : World) (e : Ending) (w' : World) : Prop := ∃ r l, e = .returned r ∧ l.map KdV.k = builtK ∧ KdsIn w' w.heap.size r l ∧ Only (fun _ => False) w w'
set_option maxRecDepth 100000 in
theorem refBuilt (w : World) : Calls Tryz.prog 33 #[] w (RefBuiltTo w) := by
 obtain ⟨i0, hi, hz0, hz1, hz2⟩ := info_parts info_kindd
 go_enter Tryz.func33, Tryz.ntmps33
 have haW0 := (Only.refl (fun _ => False) w).alloc (.cells #[.string ⟨#[60, 105, 110, 105, 116, 62]⟩, .string ⟨#[40, 41, 86]⟩, .int .i64 0] 95)
 have hnW0 := heap_alloc_new w (.cells #[.string ⟨#[60, 105, 110, 105, 116, 62]⟩, .string ⟨#[40, 41, 86]⟩, .int .i64 0] 95)
 have hzW0 : (w.alloc (.cells #[.string ⟨#[60, 105, 110, 105, 116, 62]⟩, .string ⟨#[40, 41, 86]⟩, .int .i64 0] 95)).heap.size = w.heap.size + 1 := by simp
 obtain ⟨W0, hW0⟩ : ∃ x, w.alloc (.cells #[.string ⟨#[60, 105, 110, 105, 116, 62]⟩, .string ⟨#[40, 41, 86]⟩, .int .i64 0] 95) = x := ⟨_, rfl⟩
 rw [hW0] at haW0 hnW0 hzW0
 have haW1 := (Only.refl (fun _ => False) W0).alloc (.cells #[.string ⟨#[60, 105, 110, 105, 116, 62]⟩, .string ⟨#[40, 41, 86]⟩, .int .i64 0, .string ⟨#[119, 97, 105, 116]⟩, .string ⟨#[40, 41, 86]⟩, .int .i64 0, .string ⟨#[110, 111, 116, 105, 102, 121]⟩, .string ⟨#[40, 41, 86]⟩, .int .i64 0, .string ⟨#[110, 111, 116, 105, 102, 121, 65, 108, 108]⟩, .string ⟨#[40, 41, 86]⟩, .int .i64 0] 95)
 have hnW1 := heap_alloc_new W0 (.cells #[.string ⟨#[60, 105, 110, 105, 116, 62]⟩, .string ⟨#[40, 41, 86]⟩, .int .i64 0, .string ⟨#[119, 97, 105, 116]⟩, .string ⟨#[40, 41, 86]⟩, .int .i64 0, .string ⟨#[110, 111, 116, 105, 102, 121]⟩, .string ⟨#[40, 41, 86]⟩, .int .i64 0, .string ⟨#[110, 111, 116, 105, 102, 121, 65, 108, 108]⟩, .string ⟨#[40, 41, 86]⟩, .int .i64 0] 95)
 have hzW1 : (W0.alloc (.cells #[.string ⟨#[60, 105, 110, 105, 116, 62]⟩, .string ⟨#[40, 41, 86]⟩, .int .i64 0, .string ⟨#[119, 97, 105, 116]⟩, .string ⟨#[40, 41, 86]⟩, .int .i64 0, .string ⟨#[110, 111, 116, 105, 102, 121]⟩, .string ⟨#[40, 41, 86]⟩, .int .i64 0, .string ⟨#[110, 111, 116, 105, 102, 121, 65, 108, 108]⟩, .string ⟨#[40, 41, 86]⟩, .int .i64 0] 95)).heap.size = W0.heap.size + 1 := by simp
 have hmW1 : MeRow (W0.alloc (.cells #[.string ⟨#[60, 105, 110, 105, 116, 62]⟩, .string ⟨#[40, 41, 86]⟩, .int .i64 0, .string ⟨#[119, 97, 105, 116]⟩, .string ⟨#[40, 41, 86]⟩, .int .i64 0, .string ⟨#[110, 111, 116, 105, 102, 121]⟩, .string ⟨#[40, 41, 86]⟩, .int .i64 0, .string ⟨#[110, 111, 116, 105, 102, 121, 65, 108, 108]⟩, .string ⟨#[40, 41, 86]⟩, .int .i64 0] 95)) w.heap.size (.slice (some ⟨W0.heap.size, 0, none⟩) 4 4) [beginM, ⟨waitB, voidB, 0⟩, ⟨notiB, voidB, 0⟩, ⟨ntalB, voidB, 0⟩] := ⟨rfl, .inr ⟨W0.heap.size, 4, _, rfl, Nat.le_trans (Nat.le_refl _) (by omega), hnW1, Nat.le_refl _, by unfold maxLen; omega, rfl, rfl⟩⟩
 obtain ⟨W1, hW1⟩ : ∃ x, W0.alloc (.cells #[.string ⟨#[60, 105, 110, 105, 116, 62]⟩, .string ⟨#[40, 41, 86]⟩, .int .i64 0, .string ⟨#[119, 97, 105, 116]⟩, .string ⟨#[40, 41, 86]⟩, .int .i64 0, .string ⟨#[110, 111, 116, 105, 102, 121]⟩, .string ⟨#[40, 41, 86]⟩, .int .i64 0, .string ⟨#[110, 111, 116, 105, 102, 121, 65, 108, 108]⟩, .string ⟨#[40, 41, 86]⟩, .int .i64 0] 95) = x := ⟨_, rfl⟩
 rw [hW1] at haW1 hnW1 hzW1 hmW1
 have haW2 := (Only.refl (fun _ => False) W1).alloc (.cells #[.string ⟨#[60, 105, 110, 105, 116, 62]⟩, .string ⟨#[40, 41, 86]⟩, .int .i64 0] 95)
 have hnW2 := heap_alloc_new W1 (.cells #[.string ⟨#[60, 105, 110, 105, 116, 62]⟩, .string ⟨#[40, 41, 86]⟩, .int .i64 0] 95)
 have hzW2 : (W1.alloc (.cells #[.string ⟨#[60, 105, 110, 105, 116, 62]⟩, .string ⟨#[40, 41, 86]⟩, .int .i64 0] 95)).heap.size = W1.heap.size + 1 := by simp
 have hmW2 : MeRow (W1.alloc (.cells #[.string ⟨#[60, 105, 110, 105, 116, 62]⟩, .string ⟨#[40, 41, 86]⟩, .int .i64 0] 95)) w.heap.size (.slice (some ⟨W1.heap.size, 0, none⟩) 1 1) [beginM] := ⟨rfl, .inr ⟨W1.heap.size, 1, _, rfl, Nat.le_trans (Nat.le_refl _) (by omega), hnW2, Nat.le_refl _, by unfold maxLen; omega, rfl, rfl⟩⟩
 obtain ⟨W2, hW2⟩ : ∃ x, W1.alloc (.cells #[.string ⟨#[60, 105, 110, 105, 116, 62]⟩, .string ⟨#[40, 41, 86]⟩, .int .i64 0] 95) = x := ⟨_, rfl⟩
 rw [hW2] at haW2 hnW2 hzW2 hmW2
 have haW3 := (Only.refl (fun _ => False) W2).alloc (.cells #[.string ⟨#[60, 105, 110, 105, 116, 62]⟩, .string ⟨#[40, 41, 86]⟩, .int .i64 0, .string ⟨#[115, 116, 97, 114, 116]⟩, .string ⟨#[40, 41, 86]⟩, .int .i64 0, .string ⟨#[106, 111, 105, 110]⟩, .string ⟨#[40, 41, 86]⟩, .int .i64 0, .string ⟨#[114, 117, 110]⟩, .string ⟨#[40, 41, 86]⟩, .int .i64 0] 95)
 have hnW3 := heap_alloc_new W2 (.cells #[.string ⟨#[60, 105, 110, 105, 116, 62]⟩, .string ⟨#[40, 41, 86]⟩, .int .i64 0, .string ⟨#[115, 116, 97, 114, 116]⟩, .string ⟨#[40, 41, 86]⟩, .int .i64 0, .string ⟨#[106, 111, 105, 110]⟩, .string ⟨#[40, 41, 86]⟩, .int .i64 0, .string ⟨#[114, 117, 110]⟩, .string ⟨#[40, 41, 86]⟩, .int .i64 0] 95)
 have hzW3 : (W2.alloc (.cells #[.string ⟨#[60, 105, 110, 105, 116, 62]⟩, .string ⟨#[40, 41, 86]⟩, .int .i64 0, .string ⟨#[115, 116, 97, 114, 116]⟩, .string ⟨#[40, 41, 86]⟩, .int .i64 0, .string ⟨#[106, 111, 105, 110]⟩, .string ⟨#[40, 41, 86]⟩, .int .i64 0, .string ⟨#[114, 117, 110]⟩, .string ⟨#[40, 41, 86]⟩, .int .i64 0] 95)).heap.size = W2.heap.size + 1 := by simp
 have hmW3 : MeRow (W2.alloc (.cells #[.string ⟨#[60, 105, 110, 105, 116, 62]⟩, .string ⟨#[40, 41, 86]⟩, .int .i64 0, .string ⟨#[115, 116, 97, 114, 116]⟩, .string ⟨#[40, 41, 86]⟩, .int .i64 0, .string ⟨#[106, 111, 105, 110]⟩, .string ⟨#[40, 41, 86]⟩, .int .i64 0, .string ⟨#[114, 117, 110]⟩, .string ⟨#[40, 41, 86]⟩, .int .i64 0] 95)) w.heap.size (.slice (some ⟨W2.heap.size, 0, none⟩) 4 4) [beginM, ⟨startB, voidB, 0⟩, ⟨joinB, voidB, 0⟩, ⟨runB, voidB, 0⟩] := ⟨rfl, .inr ⟨W2.heap.size, 4, _, rfl, Nat.le_trans (Nat.le_refl _) (by omega), hnW3, Nat.le_refl _, by unfold maxLen; omega, rfl, rfl⟩⟩
 obtain ⟨W3, hW3⟩ : ∃ x, W2.alloc (.cells #[.string ⟨#[60, 105, 110, 105, 116, 62]⟩, .string ⟨#[40, 41, 86]⟩, .int .i64 0, .string ⟨#[115, 116, 97, 114, 116]⟩, .string ⟨#[40, 41, 86]⟩, .int .i64 0, .string ⟨#[106, 111, 105, 110]⟩, .string ⟨#[40, 41, 86]⟩, .int .i64 0, .string ⟨#[114, 117, 110]⟩, .string ⟨#[40, 41, 86]⟩, .int .i64 0] 95) = x := ⟨_, rfl⟩
 rw [hW3] at haW3 hnW3 hzW3 hmW3
 have haW4 := (Only.refl (fun _ => False) W3).alloc (.cells #[.string ⟨#[114, 101, 97, 100]⟩, .string ⟨#[40, 41, 73]⟩, .int .i64 8, .string ⟨#[99, 108, 111, 99, 107]⟩, .string ⟨#[40, 41, 74]⟩, .int .i64 8, .string ⟨#[119, 114, 105, 116, 101]⟩, .string ⟨#[40, 74, 41, 86]⟩, .int .i64 8] 95)
 have hnW4 := heap_alloc_new W3 (.cells #[.string ⟨#[114, 101, 97, 100]⟩, .string ⟨#[40, 41, 73]⟩, .int .i64 8, .string ⟨#[99, 108, 111, 99, 107]⟩, .string ⟨#[40, 41, 74]⟩, .int .i64 8, .string ⟨#[119, 114, 105, 116, 101]⟩, .string ⟨#[40, 74, 41, 86]⟩, .int .i64 8] 95)
 have hzW4 : (W3.alloc (.cells #[.string ⟨#[114, 101, 97, 100]⟩, .string ⟨#[40, 41, 73]⟩, .int .i64 8, .string ⟨#[99, 108, 111, 99, 107]⟩, .string ⟨#[40, 41, 74]⟩, .int .i64 8, .string ⟨#[119, 114, 105, 116, 101]⟩, .string ⟨#[40, 74, 41, 86]⟩, .int .i64 8] 95)).heap.size = W3.heap.size + 1 := by simp
 have hmW4 : MeRow (W3.alloc (.cells #[.string ⟨#[114, 101, 97, 100]⟩, .string ⟨#[40, 41, 73]⟩, .int .i64 8, .string ⟨#[99, 108, 111, 99, 107]⟩, .string ⟨#[40, 41, 74]⟩, .int .i64 8, .string ⟨#[119, 114, 105, 116, 101]⟩, .string ⟨#[40, 74, 41, 86]⟩, .int .i64 8] 95)) w.heap.size (.slice (some ⟨W3.heap.size, 0, none⟩) 3 3) [⟨readB, retIB, 8⟩, ⟨clockB, retJB, 8⟩, ⟨writeB, argJB, 8⟩] := ⟨rfl, .inr ⟨W3.heap.size, 3, _, rfl, Nat.le_trans (Nat.le_refl _) (by omega), hnW4, Nat.le_refl _, by unfold maxLen; omega, rfl, rfl⟩⟩
 obtain ⟨W4, hW4⟩ : ∃ x, W3.alloc (.cells #[.string ⟨#[114, 101, 97, 100]⟩, .string ⟨#[40, 41, 73]⟩, .int .i64 8, .string ⟨#[99, 108, 111, 99, 107]⟩, .string ⟨#[40, 41, 74]⟩, .int .i64 8, .string ⟨#[119, 114, 105, 116, 101]⟩, .string ⟨#[40, 74, 41, 86]⟩, .int .i64 8] 95) = x := ⟨_, rfl⟩
 rw [hW4] at haW4 hnW4 hzW4 hmW4
 have haW5 := (Only.refl (fun _ => False) W4).alloc (.cells #[.string ⟨#[79, 98, 106, 101, 99, 116]⟩, .string ⟨#[]⟩, .slice none 0 0, .slice (some ⟨W0.heap.size, 0, none⟩) 4 4, .int .i64 0, .string ⟨#[84, 104, 114, 111, 119, 97, 98, 108, 101]⟩, .string ⟨#[79, 98, 106, 101, 99, 116]⟩, .slice none 0 0, .slice (some ⟨W1.heap.size, 0, none⟩) 1 1, .int .i64 0, .string ⟨#[84, 104, 114, 101, 97, 100]⟩, .string ⟨#[79, 98, 106, 101, 99, 116]⟩, .slice none 0 0, .slice (some ⟨W2.heap.size, 0, none⟩) 4 4, .int .i64 0, .string ⟨#[83, 121, 115]⟩, .string ⟨#[79, 98, 106, 101, 99, 116]⟩, .slice none 0 0, .slice (some ⟨W3.heap.size, 0, none⟩) 3 3, .int .i64 0] 77)
 have hnW5 := heap_alloc_new W4 (.cells #[.string ⟨#[79, 98, 106, 101, 99, 116]⟩, .string ⟨#[]⟩, .slice none 0 0, .slice (some ⟨W0.heap.size, 0, none⟩) 4 4, .int .i64 0, .string ⟨#[84, 104, 114, 111, 119, 97, 98, 108, 101]⟩, .string ⟨#[79, 98, 106, 101, 99, 116]⟩, .slice none 0 0, .slice (some ⟨W1.heap.size, 0, none⟩) 1 1, .int .i64 0, .string ⟨#[84, 104, 114, 101, 97, 100]⟩, .string ⟨#[79, 98, 106, 101, 99, 116]⟩, .slice none 0 0, .slice (some ⟨W2.heap.size, 0, none⟩) 4 4, .int .i64 0, .string ⟨#[83, 121, 115]⟩, .string ⟨#[79, 98, 106, 101, 99, 116]⟩, .slice none 0 0, .slice (some ⟨W3.heap.size, 0, none⟩) 3 3, .int .i64 0] 77)
 have hzW5 : (W4.alloc (.cells #[.string ⟨#[79, 98, 106, 101, 99, 116]⟩, .string ⟨#[]⟩, .slice none 0 0, .slice (some ⟨W0.heap.size, 0, none⟩) 4 4, .int .i64 0, .string ⟨#[84, 104, 114, 111, 119, 97, 98, 108, 101]⟩, .string ⟨#[79, 98, 106, 101, 99, 116]⟩, .slice none 0 0, .slice (some ⟨W1.heap.size, 0, none⟩) 1 1, .int .i64 0, .string ⟨#[84, 104, 114, 101, 97, 100]⟩, .string ⟨#[79, 98, 106, 101, 99, 116]⟩, .slice none 0 0, .slice (some ⟨W2.heap.size, 0, none⟩) 4 4, .int .i64 0, .string ⟨#[83, 121, 115]⟩, .string ⟨#[79, 98, 106, 101, 99, 116]⟩, .slice none 0 0, .slice (some ⟨W3.heap.size, 0, none⟩) 3 3, .int .i64 0] 77)).heap.size = W4.heap.size + 1 := by simp
 have hkW5 : KdRow (W4.alloc (.cells #[.string ⟨#[79, 98, 106, 101, 99, 116]⟩, .string ⟨#[]⟩, .slice none 0 0, .slice (some ⟨W0.heap.size, 0, none⟩) 4 4, .int .i64 0, .string ⟨#[84, 104, 114, 111, 119, 97, 98, 108, 101]⟩, .string ⟨#[79, 98, 106, 101, 99, 116]⟩, .slice none 0 0, .slice (some ⟨W1.heap.size, 0, none⟩) 1 1, .int .i64 0, .string ⟨#[84, 104, 114, 101, 97, 100]⟩, .string ⟨#[79, 98, 106, 101, 99, 116]⟩, .slice none 0 0, .slice (some ⟨W2.heap.size, 0, none⟩) 4 4, .int .i64 0, .string ⟨#[83, 121, 115]⟩, .string ⟨#[79, 98, 106, 101, 99, 116]⟩, .slice none 0 0, .slice (some ⟨W3.heap.size, 0, none⟩) 3 3, .int .i64 0] 77)) w.heap.size (.slice (some ⟨W4.heap.size, 0, none⟩) 4 4) (firstKd W0.heap.size W1.heap.size W2.heap.size W3.heap.size) := ⟨rfl, .inr ⟨W4.heap.size, 4, _, rfl, by omega, hnW5, Nat.le_refl _, by unfold maxLen; omega, rfl, rfl⟩⟩
 obtain ⟨W5, hW5⟩ : ∃ x, W4.alloc (.cells #[.string ⟨#[79, 98, 106, 101, 99, 116]⟩, .string ⟨#[]⟩, .slice none 0 0, .slice (some ⟨W0.heap.size, 0, none⟩) 4 4, .int .i64 0, .string ⟨#[84, 104, 114, 111, 119, 97, 98, 108, 101]⟩, .string ⟨#[79, 98, 106, 101, 99, 116]⟩, .slice none 0 0, .slice (some ⟨W1.heap.size, 0, none⟩) 1 1, .int .i64 0, .string ⟨#[84, 104, 114, 101, 97, 100]⟩, .string ⟨#[79, 98, 106, 101, 99, 116]⟩, .slice none 0 0, .slice (some ⟨W2.heap.size, 0, none⟩) 4 4, .int .i64 0, .string ⟨#[83, 121, 115]⟩, .string ⟨#[79, 98, 106, 101, 99, 116]⟩, .slice none 0 0, .slice (some ⟨W3.heap.size, 0, none⟩) 3 3, .int .i64 0] 77) = x := ⟨_, rfl⟩
 rw [hW5] at haW5 hnW5 hzW5 hkW5
 have haW6 := (Only.refl (fun _ => False) W5).alloc (.cells #[.string ⟨#[78, 117, 108, 108, 69, 114, 114, 111, 114]⟩, .string ⟨#[66, 111, 117, 110, 100, 115, 69, 114, 114, 111, 114]⟩, .string ⟨#[67, 97, 115, 116, 69, 114, 114, 111, 114]⟩, .string ⟨#[68, 105, 118, 69, 114, 114, 111, 114]⟩, .string ⟨#[79, 119, 110, 101, 114, 69, 114, 114, 111, 114]⟩, .string ⟨#[77, 101, 109, 111, 114, 121, 69, 114, 114, 111, 114]⟩, .string ⟨#[68, 101, 112, 116, 104, 69, 114, 114, 111, 114]⟩, .string ⟨#[83, 105, 122, 101, 69, 114, 114, 111, 114]⟩, .string ⟨#[83, 116, 111, 114, 101, 69, 114, 114, 111, 114]⟩] 9)
 have hnW6 := heap_alloc_new W5 (.cells #[.string ⟨#[78, 117, 108, 108, 69, 114, 114, 111, 114]⟩, .string ⟨#[66, 111, 117, 110, 100, 115, 69, 114, 114, 111, 114]⟩, .string ⟨#[67, 97, 115, 116, 69, 114, 114, 111, 114]⟩, .string ⟨#[68, 105, 118, 69, 114, 114, 111, 114]⟩, .string ⟨#[79, 119, 110, 101, 114, 69, 114, 114, 111, 114]⟩, .string ⟨#[77, 101, 109, 111, 114, 121, 69, 114, 114, 111, 114]⟩, .string ⟨#[68, 101, 112, 116, 104, 69, 114, 114, 111, 114]⟩, .string ⟨#[83, 105, 122, 101, 69, 114, 114, 111, 114]⟩, .string ⟨#[83, 116, 111, 114, 101, 69, 114, 114, 111, 114]⟩] 9)
 have hzW6 : (W5.alloc (.cells #[.string ⟨#[78, 117, 108, 108, 69, 114, 114, 111, 114]⟩, .string ⟨#[66, 111, 117, 110, 100, 115, 69, 114, 114, 111, 114]⟩, .string ⟨#[67, 97, 115, 116, 69, 114, 114, 111, 114]⟩, .string ⟨#[68, 105, 118, 69, 114, 114, 111, 114]⟩, .string ⟨#[79, 119, 110, 101, 114, 69, 114, 114, 111, 114]⟩, .string ⟨#[77, 101, 109, 111, 114, 121, 69, 114, 114, 111, 114]⟩, .string ⟨#[68, 101, 112, 116, 104, 69, 114, 114, 111, 114]⟩, .string ⟨#[83, 105, 122, 101, 69, 114, 114, 111, 114]⟩, .string ⟨#[83, 116, 111, 114, 101, 69, 114, 114, 111, 114]⟩] 9)).heap.size = W5.heap.size + 1 := by simp
 have hsW6 : StrS (W5.alloc (.cells #[.string ⟨#[78, 117, 108, 108, 69, 114, 114, 111, 114]⟩, .string ⟨#[66, 111, 117, 110, 100, 115, 69, 114, 114, 111, 114]⟩, .string ⟨#[67, 97, 115, 116, 69, 114, 114, 111, 114]⟩, .string ⟨#[68, 105, 118, 69, 114, 114, 111, 114]⟩, .string ⟨#[79, 119, 110, 101, 114, 69, 114, 114, 111, 114]⟩, .string ⟨#[77, 101, 109, 111, 114, 121, 69, 114, 114, 111, 114]⟩, .string ⟨#[68, 101, 112, 116, 104, 69, 114, 114, 111, 114]⟩, .string ⟨#[83, 105, 122, 101, 69, 114, 114, 111, 114]⟩, .string ⟨#[83, 116, 111, 114, 101, 69, 114, 114, 111, 114]⟩] 9)) (.slice (some ⟨W5.heap.size, 0, none⟩) 9 9) errNames := StrS.new (ns := errNames) (by decide)
 obtain ⟨W6, hW6⟩ : ∃ x, W5.alloc (.cells #[.string ⟨#[78, 117, 108, 108, 69, 114, 114, 111, 114]⟩, .string ⟨#[66, 111, 117, 110, 100, 115, 69, 114, 114, 111, 114]⟩, .string ⟨#[67, 97, 115, 116, 69, 114, 114, 111, 114]⟩, .string ⟨#[68, 105, 118, 69, 114, 114, 111, 114]⟩, .string ⟨#[79, 119, 110, 101, 114, 69, 114, 114, 111, 114]⟩, .string ⟨#[77, 101, 109, 111, 114, 121, 69, 114, 114, 111, 114]⟩, .string ⟨#[68, 101, 112, 116, 104, 69, 114, 114, 111, 114]⟩, .string ⟨#[83, 105, 122, 101, 69, 114, 114, 111, 114]⟩, .string ⟨#[83, 116, 111, 114, 101, 69, 114, 114, 111, 114]⟩] 9) = x := ⟨_, rfl⟩
 rw [hW6] at haW6 hnW6 hzW6 hsW6
 have h45 := haW5.trans haW6 (fun _ h _ => h)
 have h35 := haW4.trans h45 (fun _ h _ => h)
 have h25 := haW3.trans h35 (fun _ h _ => h)
 have h15 := haW2.trans h25 (fun _ h _ => h)
 have h05 := haW1.trans h15 (fun _ h _ => h)
 have HON0 := hid (haW0.trans h05 (fun _ h _ => h))
 have HKD0 : Hid (KdsIn W6 w.heap.size (.slice (some ⟨W4.heap.size, 0, none⟩) 4 4) (firstKd W0.heap.size W1.heap.size W2.heap.size W3.heap.size)) := hid ⟨hkW5.only haW6 (fun _ _ h => h), fun x hx => by
  simp only [firstKd, List.mem_cons, List.mem_nil_iff, or_false] at hx
  rcases hx with rfl | rfl | rfl | rfl
  ·exact ⟨MeRow.nil _ _, hmW1.only h15 (fun _ _ h => h)⟩
  ·exact ⟨MeRow.nil _ _, hmW2.only h25 (fun _ _ h => h)⟩
  ·exact ⟨MeRow.nil _ _, hmW3.only h35 (fun _ _ h => h)⟩
  ·exact ⟨MeRow.nil _ _, hmW4.only h45 (fun _ _ h => h)⟩⟩
 have HSTR := hid hsW6
 have HBG := hid (h05.heap hnW0 (fun h => h))
 have HZ := hid (show W4.heap.size = w.heap.size + 5 ∧ W5.heap.size = w.heap.size + 6 from ⟨by omega, by omega⟩)
 have HW0 := hid hW0
 have HW1 := hid hW1
 have HW2 := hid hW2
 have HW3 := hid hW3
 have HW4 := hid hW4
 have HW5 := hid hW5
 have HW6 := hid hW6
 have HZW0 := hid hzW0
 have HZW1 := hid hzW1
 have HZW2 := hid hzW2
 have HZW3 := hid hzW3
 have HZW4 := hid hzW4
 have HZW5 := hid hzW5
 have HZW6 := hid hzW6
 clear haW0 hnW0 hzW0 hW0 haW1 hnW1 hzW1 hW1 haW2 hnW2 hzW2 hW2 haW3 hnW3 hzW3 hW3 haW4 hnW4 hzW4 hW4 haW5 hnW5 hzW5 hW5 haW6 hnW6 hzW6 hW6 hmW1 hmW2 hmW3 hmW4 hkW5 hsW6 h45 h35 h25 h15 h05
 go_wp2
 rw [HW0.out, ← HZW0.out, HW1.out, ← HZW1.out, HW2.out, ← HZW2.out, HW3.out, ← HZW3.out, HW4.out, ← HZW4.out, HW5.out, ← HZW5.out, HW6.out]
 clear HW0 HW1 HW2 HW3 HW4 HW5 HW6
 go_loopw [2, 4] (fun lv iv wr => ∃ (j : Nat) (l : List KdV), iv = .int .i64 j ∧ j ≤ 9 ∧ Hid (l.map KdV.k = (builtK.take (4 + j)).map zeroP) ∧ Hid (KdsIn wr w.heap.size lv l) ∧ Hid (StrS wr (.slice (some ⟨W5.heap.size, 0, none⟩) 9 9) errNames) ∧ Hid (wr.heap[w.heap.size]? = some (.cells #[.string ⟨#[60, 105, 110, 105, 116, 62]⟩, .string ⟨#[40, 41, 86]⟩, .int .i64 0] 95 (0, 0))) ∧ Hid (∀ k, lv.ownBlock = some k → W5.heap.size ≠ k ∧ w.heap.size ≠ k) ∧ Hid (W5.heap.size < wr.heap.size) ∧ Hid (Only (fun _ => False) w wr)) (fun _ iv _ => 9 - (intOf iv).toNat)
 case atStart => exact ⟨0, _, rfl, Nat.zero_le _, hid rfl, HKD0, HSTR, HBG, hid (fun k hk => by have e : W4.heap.size = k := Option.some.inj hk; have := HZ.out; omega), hid (by have := HZW6.out; have := HZW5.out; omega), HON0⟩
 case round =>
  obtain ⟨j, l, rfl, hj, HL, HKD, HST, HBG, HNE, HLT, HON⟩ := hrel
  by_cases hlt : j < 9
  ·have hjz : (j : Int) < 9 := by omega
   have hj0 : (0 : Int) ≤ (j : Int) := by omega
   obtain ⟨b, o, hbo, y⟩ := Sl.at (show Sl (.slice (some ⟨W5.heap.size, 0, none⟩) 9 9) 9 _ from HST.out) hlt
   injection hbo with hbo
   injection hbo with hb ho' _
   subst hb
   subst ho'
   simp only [Nat.zero_add] at y
   have HTK := hid (builtK_take hlt)
   have hll : l.length ≤ 12 := by
    have := congrArg List.length HL.out
    rw [List.length_map, List.length_map, List.length_take, builtK_len] at this
    omega
   generalize errNames.getD j ⟨#[]⟩ = x at *
   obtain ⟨al, cl, rfl⟩ := HKD.out.row.slice
   have t0 := cell_blk HBG.out 0
   have t1 := cell_blk HBG.out 1
   have t2 := cell_blk HBG.out 2
   have h4 := (Only.refl (fun _ => False) wr.drew).alloc (.cells #[.string ⟨#[60, 105, 110, 105, 116, 62]⟩, .string ⟨#[40, 41, 86]⟩, .int .i64 0] 95)
   have h5 := h4.alloc (.cells #[.string x, .string ⟨#[84, 104, 114, 111, 119, 97, 98, 108, 101]⟩, .slice none 0 0, .slice (some ⟨wr.heap.size, 0, none⟩) 1 1, .int .i64 0] 77)
   have h45 := (Only.refl (fun _ => False) (wr.drew.alloc (.cells #[.string ⟨#[60, 105, 110, 105, 116, 62]⟩, .string ⟨#[40, 41, 86]⟩, .int .i64 0] 95))).alloc (.cells #[.string x, .string ⟨#[84, 104, 114, 111, 119, 97, 98, 108, 101]⟩, .slice none 0 0, .slice (some ⟨wr.heap.size, 0, none⟩) 1 1, .int .i64 0] 77)
   have hmn : MeRow (wr.drew.alloc (.cells #[.string ⟨#[60, 105, 110, 105, 116, 62]⟩, .string ⟨#[40, 41, 86]⟩, .int .i64 0] 95)) w.heap.size (.slice (some ⟨wr.heap.size, 0, none⟩) 1 1) [beginM] := ⟨rfl, .inr ⟨wr.heap.size, 1, _, rfl, HON.out.size, heap_alloc_new wr.drew _, Nat.le_refl _, by unfold maxLen; omega, rfl, rfl⟩⟩
   have HMN := hid (show MeRow ((wr.drew.alloc (.cells #[.string ⟨#[60, 105, 110, 105, 116, 62]⟩, .string ⟨#[40, 41, 86]⟩, .int .i64 0] 95)).alloc (.cells #[.string x, .string ⟨#[84, 104, 114, 111, 119, 97, 98, 108, 101]⟩, .slice none 0 0, .slice (some ⟨wr.heap.size, 0, none⟩) 1 1, .int .i64 0] 77)) w.heap.size (.slice none 0 0) (zeroP (errK x)).fields ∧ MeRow ((wr.drew.alloc (.cells #[.string ⟨#[60, 105, 110, 105, 116, 62]⟩, .string ⟨#[40, 41, 86]⟩, .int .i64 0] 95)).alloc (.cells #[.string x, .string ⟨#[84, 104, 114, 111, 119, 97, 98, 108, 101]⟩, .slice none 0 0, .slice (some ⟨wr.heap.size, 0, none⟩) 1 1, .int .i64 0] 77)) w.heap.size (.slice (some ⟨wr.heap.size, 0, none⟩) 1 1) (zeroP (errK x)).meths from ⟨MeRow.nil _ _, hmn.only h45 (fun _ _ h => h)⟩)
   have HSRC := hid (Src.kind (w := wr.drew.alloc (.cells #[.string ⟨#[60, 105, 110, 105, 116, 62]⟩, .string ⟨#[40, 41, 86]⟩, .int .i64 0] 95)) (m := wr.heap.size + 1) x ⟨#[84, 104, 114, 111, 119, 97, 98, 108, 101]⟩ (.slice none 0 0) (.slice (some ⟨wr.heap.size, 0, none⟩) 1 1) 0 ⟨zeroP (errK x), .slice none 0 0, .slice (some ⟨wr.heap.size, 0, none⟩) 1 1⟩ rfl rfl rfl (by simp))
   have hkd := HKD.out.only ((Only.refl (fun _ => False) wr).drewN 1)
   have HKD5 := hid (KdsIn.only hkd h5)
   have HROW5 := hid HKD5.out.row
   have HBASE := hid (Nat.le_trans HON.out.size h5.size)
   have H5 := hid h5
   have HBGX := hid (h5.heap (show wr.drew.heap[w.heap.size]? = _ from HBG.out) (fun h => h))
   have HSTX := hid ((HST.out.only ((Only.refl (fun _ => False) wr).drewN 1)).only h5)
   have HLX := hid (Nat.lt_of_lt_of_le HLT.out h5.size)
   have HLW := hid (Nat.lt_of_le_of_lt (show w.heap.size ≤ W5.heap.size by have := HZ.out; omega) HLX.out)
   have HONX := hid ((HON.out.drewN 1).trans h5 (fun _ h _ => h))
   clear h4 h5 h45 hmn hkd
   go_wp2
   refine wp_region_held_drew (S := fun wc => wc.cell? ⟨W5.heap.size, j, none⟩ = some (.string x) ∧ wc.cell? ⟨w.heap.size, 0, none⟩ = some (.string ⟨#[60, 105, 110, 105, 116, 62]⟩) ∧ wc.cell? ⟨w.heap.size, 1, none⟩ = some (.string ⟨#[40, 41, 86]⟩) ∧ wc.cell? ⟨w.heap.size, 2, none⟩ = some (.int .i64 0)) (by kernel_rfl) ⟨y, t0, t1, t2⟩ (fun hHeld => ?_)
   refine tk2 0 (h := ?_)
   refine tk2 1 (h := ?_)
   refine tk2 2 (h := ?_)
   refine tk2 3 (h := ?_)
   refine tk2 4 (h := ?_)
   refine tk2 5 (h := ?_)
   refine tkR 6 (h := fun K hK => ?_)
   go_simp
   refine hK.out _ _ ?_ (fun hHeld2 => ?_)
   ·exact ⟨((Only.refl (fun _ => False) wr.drew).alloc _).cell hHeld.1 (fun h => h), ((Only.refl (fun _ => False) wr.drew).alloc _).cell hHeld.2.1 (fun h => h), ((Only.refl (fun _ => False) wr.drew).alloc _).cell hHeld.2.2.1 (fun h => h), ((Only.refl (fun _ => False) wr.drew).alloc _).cell hHeld.2.2.2 (fun h => h)⟩
   clear hK K
   try simp only [Act.put, sIB, sC0, sCS]
   clear hHeld
   have hHeld := hHeld2
   clear hHeld2
   refine tk2 7 (h := ?_)
   refine tkR 8 (h := fun K hK => ?_)
   go_simp
   refine hK.out _ _ ?_ (fun hHeld2 => ?_)
   ·exact ⟨((Only.refl (fun _ => False) _).alloc _).cell hHeld.1 (fun h => h), ((Only.refl (fun _ => False) _).alloc _).cell hHeld.2.1 (fun h => h), ((Only.refl (fun _ => False) _).alloc _).cell hHeld.2.2.1 (fun h => h), ((Only.refl (fun _ => False) _).alloc _).cell hHeld.2.2.2 (fun h => h)⟩
   clear hK K
   try simp only [Act.put, sIB, sC0, sCS]
   clear hHeld
   have hHeld := hHeld2
   clear hHeld2
   refine tkR 9 (h := fun K hK => ?_)
   (refine step_append_src rfl (.tmp 35) (.tmp 43) 78 rfl 77 i0 (.agg #[.string ⟨#[]⟩, .string ⟨#[]⟩, .slice none 0 0, .slice none 0 0, .int .i64 0]) 5 88 Tryz.underlying78 hi hz0 hz1 hz2 rfl (by decide) w.heap.size (.slice al l.length cl) l.length (l.flatMap cellsKd) rfl (by exact HROW5.out) (by exact HBASE.out) (.slice (some ⟨wr.heap.size + 1, 0, none⟩) 1 1) 1 (cellsKd ⟨zeroP (errK x), .slice none 0 0, .slice (some ⟨wr.heap.size, 0, none⟩) 1 1⟩) rfl (by exact HSRC.out) (by unfold maxLen; omega) (by omega) ?_; intro v' w6 hown hgrow hnew; have hos := (Only.refl (fun k => (Value.slice al l.length cl).ownBlock = some k) _).grown hgrow (fun k hk _ => hk); have HKI := hid (KdsIn.push HKD5.out HMN.out hos (KdRow.more hown)); have HNX := hid (fun k (hk : v'.ownBlock = some k) => hnew k hk); have HOS := hid hos; clear hown hgrow hnew hos)
   refine hK.out _ _ ?_ (fun hHeld2 => ?_)
   ·exact ⟨HOS.out.cell hHeld.1 (fun h => by have := HNE.out _ h; exact this.1 rfl), HOS.out.cell hHeld.2.1 (fun h => by have := HNE.out _ h; exact this.2 rfl), HOS.out.cell hHeld.2.2.1 (fun h => by have := HNE.out _ h; exact this.2 rfl), HOS.out.cell hHeld.2.2.2 (fun h => by have := HNE.out _ h; exact this.2 rfl)⟩
   clear hK K
   try simp only [Act.put, sIB, sC0, sCS]
   clear hHeld
   have hHeld := hHeld2
   clear hHeld2
   refine tk2 10 (h := ?_)
   refine wpAnyH_done (by kernel_rfl) ?_ _
   have hbg := HOS.out.heap HBGX.out (fun h => (HNE.out _ h).2 rfl)
   have hst := HSTX.out.onlyS HOS.out (fun k hk hS => (HNE.out k hS).1 (Option.some.inj hk))
   have hon := HONX.out.trans HOS.out (fun k hk hl => by have := (HROW5.out.ge _ hk).1; omega)
   have hsz := Nat.lt_of_lt_of_le HLX.out HOS.out.size
   have HBG7 := hid hbg
   have HST7 := hid hst
   have HON7 := hid hon
   have HLT7 := hid hsz
   have HNE7 := hid (show ∀ k, v'.ownBlock = some k → W5.heap.size ≠ k ∧ w.heap.size ≠ k from fun k hk => by
    rcases HNX.out k hk with h1 | h1
    ·exact HNE.out k h1
    ·have h2 : wr.heap.size + 1 + 1 ≤ k := by simpa using h1
     have h3 := HLT.out
     have h4 := HZ.out
     exact ⟨by omega, by omega⟩)
   clear hbg hst hon hsz hHeld y t0 t1 t2 HOS HNX HLX HLW HBGX HSTX HONX
   go_wp2
   go_roundw
   case rel => exact ⟨j + 1, _, by go_num, by omega, hid (by rw [List.map_append, HL.out, HTK.out, List.map_append]; rfl), HKI, HST7, HBG7, HNE7, HLT7, HON7⟩
   case measure => simp [intOf]; omega
  ·obtain rfl : j = 9 := by omega
   have HL13 := hid (show l.map KdV.k = builtK.map zeroP from HL.out)
   have hl13 : l.length = 13 := by have := congrArg List.length HL13.out; rw [List.length_map, List.length_map, builtK_len] at this; exact this
   obtain ⟨al, cl, rfl⟩ := HKD.out.row.slice
   rw [hl13]
   have HL13N := hid hl13
   have hao : ∃ b, al = some ⟨b, 0, none⟩ := by
    rcases HKD.out.row.2 with ⟨e, hn⟩ | ⟨g, cap, cur, e, -⟩
    ·omega
    ·injection e with e _ _
     exact ⟨g, e⟩
   obtain ⟨ab, rfl⟩ := hao
   have HKDN := hid HKD.out
   have HONN := hid HON.out
   clear hlt hj HST HBG HNE HLT HKD HON
   obtain ⟨wo, hwo⟩ : ∃ x, x = wr := ⟨_, rfl⟩
   subst hwo
   clear hl13
   go_wp2
   go_loopw [5] (fun iv wr => ∃ (j : Nat) (l2 : List KdV), iv = .int .i64 j ∧ j ≤ 13 ∧ Hid (l2.map KdV.k = builtK.take j ++ (builtK.drop j).map zeroP) ∧ Hid (KdsIn wr w.heap.size (.slice (some ⟨ab, 0, none⟩) 13 cl) l2) ∧ Hid (Only (fun _ => False) w wr)) (fun iv _ => 13 - (intOf iv).toNat)
   case atStart => exact ⟨0, l, rfl, Nat.zero_le _, hid (by rw [HL13.out]; rfl), hid (by have := HKDN.out; rw [HL13N.out] at this; exact this), HONN⟩
   case round =>
    obtain ⟨j, l2, rfl, hj, HM, HKD, HON⟩ := hrel
    by_cases hlt : j < 13
    ·have hjz : (j : Int) < 13 := by omega
     have hj0 : (0 : Int) ≤ (j : Int) := by omega
     have hl2 : l2.length = 13 := by have := congrArg List.length HM.out; rw [List.length_map, List.length_append, List.length_map, List.length_take, List.length_drop, builtK_len] at this; omega
     have HROWP := hid (show KdRow wr w.heap.size (.slice (some ⟨ab, 0, none⟩) l2.length cl) l2 by rw [hl2]; exact HKD.out.row)
     have hput := HROWP.out.put (i := j) (by omega)
     have hat := HROWP.out.kds
     obtain ⟨b', o', hbo, ht⟩ := Sl.at hat (show j < l2.length by omega)
     injection hbo with hbo
     injection hbo with hb1 ho1 _
     subst hb1
     subst ho1
     have y4 := ht.c4
     have yf := World.ownsRow.frozenAt HROWP.out (j * 5 + 4)
     simp only [Nat.zero_add] at y4
     have hoS : Only (fun k => (Value.slice (some ⟨ab, 0, none⟩) 13 cl).ownBlock = some k) wr (wr.setCell ⟨ab, j * 5 + 4, none⟩ (.int .i64 (-1))) := Only.setCell (S := fun k => (Value.slice (some ⟨ab, 0, none⟩) 13 cl).ownBlock = some k) (p := ⟨ab, j * 5 + 4, none⟩) (Only.refl _ wr) (fun _ => rfl) _
     have hkd : KdsIn (wr.setCell ⟨ab, j * 5 + 4, none⟩ (.int .i64 (-1))) w.heap.size (.slice (some ⟨ab, 0, none⟩) 13 cl) (l2.set j (putP (l2.getD j default))) := KdsIn.turn HKD.out hoS (by rw [← hl2]; exact hput) (fun x hx => by
      rcases List.mem_or_eq_of_mem_set hx with hx | hx
      ·exact ⟨x, .inl hx, rfl, rfl, rfl, rfl⟩
      ·subst hx
       refine ⟨l2.getD j default, .inl ?_, rfl, rfl, rfl, rfl⟩
       rw [show l2.getD j default = l2[j] by simp [List.getD, show j < l2.length by omega]]
       exact List.getElem_mem (by omega))
     have HKD7 := hid hkd
     have HON7 := hid (HON.out.trans hoS (fun k hk hl => by have := (HROWP.out.ge k hk).1; omega))
     have HM7 := hid (put_take hl2 HM.out hlt)
     clear hput hat ht hoS hkd hl2
     go_wp2
     go_roundw
     case rel => exact ⟨j + 1, _, by go_num, by omega, HM7, HKD7, HON7⟩
     case measure => simp [intOf]; omega
    ·obtain rfl : j = 13 := by omega
     clear hlt hj
     go_wp2
     go_ret
     exact ⟨_, _, rfl, by rw [HM.out]; rfl, HKD.out, HON.out⟩
end Go.Proofs.YtinbelghhfodiaaGreatDoor
