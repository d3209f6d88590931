import Derived.Test.YtinbelghhfodiaaGreatDoorMaTkH
import Derived.Test.YtinbelghhfodiaaGreatDoorMaLpHLpI
import Derived.Laws.MakeOwn
import Derived.Deep.RegionHeld3
import Derived.Shelf.Strings.Prefix
import Derived.Lib.Bytealg
import Derived.BigQuiet
import Derived.Deep.QuietTactic
import Derived.Test.YtinbelghhfodiaaGreatDoorMaPrsBig
namespace Go.Proofs.YtinbelghhfodiaaGreatDoor
set_option maxHeartbeats 8000000
open Lib (hid)
open Go.RowKit Go.Maps
set_option linter.unusedVariables false
set_option linter.unusedSimpArgs false
def cellsBi (k : KindV × Value) : List Value := [.string k.1.name, .string k.1.super, k.2]
def BRow (w : World) (B : Nat) (v : Value) (l : List (KindV × Value)) : Prop := w.ownsRow B 126 3 v l.length (l.flatMap cellsBi)
instance : Inhabited (KindV × Value) := ⟨⟨default, .slice none 0 0⟩⟩
theorem cellsBi_at : ∀ {cs : List (KindV × Value)} {i d : Nat}, i < cs.length → d < 3 → (cs.flatMap cellsBi)[i * 3 + d]? = (cellsBi (cs.getD i default))[d]?
 | c :: r, 0, d, _, hd => by
  rw [List.flatMap_cons, List.getElem?_append_left (by simp [cellsBi]; omega)]
  simp
 | c :: r, i + 1, d, hi, hd => by
  rw [List.flatMap_cons, List.getElem?_append_right (by simp [cellsBi]; omega)]
  have : (i + 1) * 3 + d - (cellsBi c).length = i * 3 + d := by simp [cellsBi]; omega
  rw [this, cellsBi_at (by simpa using hi) hd]
  simp
structure BiAt (w : World) (b o i : Nat) (k : KindV × Value) : Prop where
 c0 : w.cell? ⟨b, o + i * 3, none⟩ = some (.string k.1.name)
 c1 : w.cell? ⟨b, o + i * 3 + 1, none⟩ = some (.string k.1.super)
 c2 : w.cell? ⟨b, o + i * 3 + 2, none⟩ = some k.2
theorem BiAt.only {w w' : World} {b o i : Nat} {k : KindV × Value} (h : BiAt w b o i k) (ho : Only (fun _ => False) w w') : BiAt w' b o i k := ⟨ho.cell h.c0 (fun h => h), ho.cell h.c1 (fun h => h), ho.cell h.c2 (fun h => h)⟩
def BiS (w : World) (v : Value) (l : List (KindV × Value)) : Prop := Sl v l.length (fun b o i => BiAt w b o i (l.getD i default))
theorem BiS.only {w w' : World} {v : Value} {l : List (KindV × Value)} (h : BiS w v l) (ho : Only (fun _ => False) w w') : BiS w' v l := h.imp (fun _ _ _ _ _ h => h.only ho)
theorem BRow.bis {w : World} {B : Nat} {v : Value} {cs : List (KindV × Value)} (h : BRow w B v cs) : BiS w v cs := by
 rcases h.2 with ⟨rfl, hn⟩ | ⟨g, cap, cur, rfl, hb, hg, hnc, hcm, hcs, htake⟩
 ·have : cs = [] := List.eq_nil_of_length_eq_zero hn
  subst this
  exact Sl.nil _
 ·refine ⟨_, cap, rfl, hnc, by unfold maxLen at hcm; omega, (fun e => by cases e), fun x hx _ => ?_⟩
  cases hx
  refine ⟨g, 0, rfl, fun i hi => ?_⟩
  have hc : ∀ d, d < 3 → w.cell? ⟨g, 0 + i * 3 + d, none⟩ = (cellsBi (cs.getD i default))[d]? := fun d hd => by
   rw [Nat.zero_add, ← cellsBi_at hi hd]
   exact (show w.ownsRow B _ 3 _ _ _ from h).cellAt (g := g) (cap := cap) (i * 3 + d) (by omega)
  exact ⟨hc 0 (by decide), hc 1 (by decide), hc 2 (by decide)⟩
theorem BRow.only {S : Nat → Prop} {w w' : World} {B : Nat} {v : Value} {cs : List (KindV × Value)} (h : BRow w B v cs) (ho : Only S w w') (hs : ∀ k, v.ownBlock = some k → ¬ S k) : BRow w' B v cs := ho.owns h hs
theorem BRow.ge {w : World} {B : Nat} {v : Value} {cs : List (KindV × Value)} (h : BRow w B v cs) : ∀ k, v.ownBlock = some k → B ≤ k ∧ k < w.heap.size := fun k hk => World.ownsRow.lt h k hk
theorem Src.builtin {w : World} {m : Nat} (n s : ByteArray) (u : Value) (k : KindV × Value) (hk : cellsBi k = [.string n, .string s, u]) (hu : u.oneCell' = true) (h : w.heap.size = m) : Src (w.alloc (.cells #[.string n, .string s, u] 126)) 3 (.slice (some ⟨m, 0, none⟩) 1 1) 1 (cellsBi k) := by
 subst h
 rw [hk]
 refine ⟨rfl, ?_, _, 1, rfl, (fun e => by cases e), fun ad hd j u' hj => ?_⟩
 ·intro x hx
  simp only [List.mem_cons, List.mem_nil_iff, or_false] at hx
  rcases hx with rfl | rfl | rfl
  ·rfl
  ·rfl
  ·exact hu
 ·cases hd
  rw [add_lit, Nat.zero_add, cell_blk (heap_alloc_new w _)]
  simpa using hj
theorem BRow.more {w3 : World} {B : Nat} {v' : Value} {cs : List (KindV × Value)} {c : KindV × Value} (hown : w3.ownsRow B 126 3 v' (cs.length + 1) (cs.flatMap cellsBi ++ cellsBi c)) : BRow w3 B v' (cs ++ [c]) := by
 unfold BRow
 rw [List.length_append, List.flatMap_append]
 simpa using hown
theorem info_builtin : (Tryz.prog.info? 126).map (fun i => (i.zero, i.size, i.bytes)) = some (some (.agg #[.string ⟨#[]⟩, .string ⟨#[]⟩, .slice none 0 0]), 3, 56) := by kernel_rfl
def BiM (B : Nat) (v : Value) (w : World) (l : List (KindV × Value)) : Prop := ∀ p ∈ l, p.1.fields = [] ∧ MemG (fun k => k < B ∨ v.ownBlock = some k) w p.2 p.1.meths
theorem BiM.only {B : Nat} {v : Value} {S : Nat → Prop} {w w' : World} {l : List (KindV × Value)} (h : BiM B v w l) (ho : Only S w w') (hs : ∀ k, S k → v.ownBlock = some k) : BiM B v w' l := fun p hp => ⟨(h p hp).1, (h p hp).2.only ho (fun k hk => .inr (hs k hk))⟩
theorem BiM.turn {B : Nat} {v v' : Value} {w : World} {l : List (KindV × Value)} (h : BiM B v w l) (hv : ∀ k, k < w.heap.size → v'.ownBlock = some k → v.ownBlock = some k) : BiM B v' w l := fun p hp => ⟨(h p hp).1, (h p hp).2.mono (fun k hk hG => by
 rcases hG with hG | hG
 ·exact .inl hG
 ·exact .inr (hv k hk hG))⟩
theorem BiM.snoc {B : Nat} {v : Value} {w : World} {l : List (KindV × Value)} (h : BiM B v w l) {k : KindV} {u : Value} (hf : k.fields = []) (hv : MemG (fun k => k < B ∨ v.ownBlock = some k) w u k.meths) : BiM B v w (l ++ [(k, u)]) := fun p hp => by
 rcases List.mem_append.1 hp with hp | hp
 ·exact h p hp
 ·rw [List.mem_singleton.1 hp]; exact ⟨hf, hv⟩
theorem BiM.append {B : Nat} {v v' : Value} {W w6 : World} {l : List (KindV × Value)} (h : BiM B v W l) (hos : Only (fun k => v.ownBlock = some k) W w6) (hnew : ∀ k, v'.ownBlock = some k → v.ownBlock = some k ∨ W.heap.size ≤ k) : BiM B v' w6 l := fun p hp =>
 ⟨(h p hp).1, (((h p hp).2.mono (G' := fun k => (k < B ∨ v.ownBlock = some k) ∨ W.heap.size ≤ k) (fun k hk hG => hG.elim id (fun h => absurd hk (by omega)))).only hos (fun k hk => .inl (.inr hk))).mono (fun k _ hG => by
  rcases hG with hG | hG
  ·exact .inl (.inl hG)
  ·rcases hnew k hG with h1 | h1
   ·exact .inl (.inr h1)
   ·exact .inr h1)⟩
theorem StrS.onlyS {S : Nat → Prop} {w w' : World} {v : Value} {ns : List ByteArray} (h : StrS w v ns) (ho : Only S w w') (hs : ∀ k, v.ownBlock = some k → ¬ S k) : StrS w' v ns := h.imp (fun b _ _ hb _ h => ho.cell h (hs b hb))
theorem MRow.bim {B B' : Nat} {w : World} {v u : Value} {ms : List MethN} (h : MRow w B' u ms) (hb : B ≤ B') (hv : ∀ k, v.ownBlock = some k → k < B' ∨ w.heap.size ≤ k) : MemG (fun k => k < B ∨ v.ownBlock = some k) w u ms := h.memG (fun k hk hl => by
 have h1 := h.ge k hk
 rcases hl with hl | hl
 ·omega
 ·have := hv k hl; omega)
def errNames : List ByteArray := [nulB, bndB, cstB, divB, ownB, memB, dptB, sizB, stoB]
theorem errK_eq : ∀ j, j < 9 → builtK.getD (4 + j) default = errK (errNames.getD j ⟨#[]⟩) := by
 intro j hj
 match j, hj with
 | 0, _ | 1, _ | 2, _ | 3, _ | 4, _ | 5, _ | 6, _ | 7, _ | 8, _ => rfl
theorem builtK_take {j : Nat} (hj : j < 9) : builtK.take (4 + (j + 1)) = builtK.take (4 + j) ++ [errK (errNames.getD j ⟨#[]⟩)] := by
 rw [← errK_eq j hj, show 4 + (j + 1) = (4 + j) + 1 by omega, List.take_succ_eq_append_getElem (by rw [builtK_len]; omega)]
 congr 1
 have hl : 4 + j < builtK.length := by rw [builtK_len]; omega
 simp [List.getD, hl]
def BuiltTo (w : World) (e : Ending) (w' : World) : Prop := ∃ r l, e = .returned r ∧ l.map (·.1) = builtK ∧ BRow w' w.heap.size r l ∧ BiM w.heap.size r w' l ∧ Only (fun _ => False) w w'
set_option maxRecDepth 100000 in
theorem pBuiltIns (w : World) : Calls Tryz.prog 64 #[] w (BuiltTo w) := by
 obtain ⟨i0, hi, hz0, hz1, hz2⟩ := info_parts info_builtin
 have CS := hid pSimple
 go_enter Tryz.func64, Tryz.ntmps64
 have hal1 := (Only.refl (fun _ => False) w).alloc (.cells #[.string ⟨#[60, 105, 110, 105, 116, 62]⟩, .string ⟨#[119, 97, 105, 116]⟩, .string ⟨#[110, 111, 116, 105, 102, 121]⟩, .string ⟨#[110, 111, 116, 105, 102, 121, 65, 108, 108]⟩] 9)
 have hst1 : StrS (w.alloc (.cells #[.string ⟨#[60, 105, 110, 105, 116, 62]⟩, .string ⟨#[119, 97, 105, 116]⟩, .string ⟨#[110, 111, 116, 105, 102, 121]⟩, .string ⟨#[110, 111, 116, 105, 102, 121, 65, 108, 108]⟩] 9)) (.slice (some ⟨w.heap.size, 0, none⟩) 4 4) [initB, waitB, notiB, ntalB] := StrS.new (ns := [initB, waitB, notiB, ntalB]) (by decide)
 have C1 := hid (CS.out _ _ _ hst1 (by decide))
 have HA1 := hid hal1
 clear hal1 hst1
 go_wp2_with (fail)
 refine C1.out.mono ?_
 rintro e w1 ⟨r1, rfl, hr1, ho1⟩
 have HO1 := hid (HA1.out.trans ho1 (fun _ h _ => h))
 obtain ⟨a1, c1, rfl, -⟩ := id hr1.flds
 have HR1 := hid hr1
 have hal2 := (Only.refl (fun _ => False) w1).alloc (.cells #[.string ⟨#[60, 105, 110, 105, 116, 62]⟩] 9)
 have hst2 : StrS (w1.alloc (.cells #[.string ⟨#[60, 105, 110, 105, 116, 62]⟩] 9)) (.slice (some ⟨w1.heap.size, 0, none⟩) 1 1) [initB] := StrS.new (ns := [initB]) (by decide)
 have C2 := hid (CS.out _ _ _ hst2 (by decide))
 have HA2 := hid (HO1.out.trans hal2 (fun _ h _ => h))
 have HA2r := hid hal2
 clear hal2 hst2 ho1 hr1
 go_wp2_with (fail)
 refine C2.out.mono ?_
 rintro e w2 ⟨r2, rfl, hr2, ho2⟩
 have HO2 := hid (HA2.out.trans ho2 (fun _ h _ => h))
 have HO2r := hid (HA2r.out.trans ho2 (fun _ h _ => h))
 obtain ⟨a2, c2, rfl, -⟩ := id hr2.flds
 have HR2 := hid hr2
 have hal3 := (Only.refl (fun _ => False) w2).alloc (.cells #[.string ⟨#[60, 105, 110, 105, 116, 62]⟩, .string ⟨#[115, 116, 97, 114, 116]⟩, .string ⟨#[106, 111, 105, 110]⟩, .string ⟨#[114, 117, 110]⟩] 9)
 have hst3 : StrS (w2.alloc (.cells #[.string ⟨#[60, 105, 110, 105, 116, 62]⟩, .string ⟨#[115, 116, 97, 114, 116]⟩, .string ⟨#[106, 111, 105, 110]⟩, .string ⟨#[114, 117, 110]⟩] 9)) (.slice (some ⟨w2.heap.size, 0, none⟩) 4 4) [initB, startB, joinB, runB] := StrS.new (ns := [initB, startB, joinB, runB]) (by decide)
 have C3 := hid (CS.out _ _ _ hst3 (by decide))
 have HA3 := hid (HO2.out.trans hal3 (fun _ h _ => h))
 have HA3r := hid hal3
 clear hal3 hst3 ho2 hr2
 go_wp2_with (fail)
 refine C3.out.mono ?_
 rintro e w3 ⟨r3, rfl, hr3, ho3⟩
 have HO3 := hid (HA3.out.trans ho3 (fun _ h _ => h))
 have HO3r := hid (HA3r.out.trans ho3 (fun _ h _ => h))
 obtain ⟨a3, c3, rfl, -⟩ := id hr3.flds
 have HR3 := hid hr3
 clear ho3 hr3
 simp only [List.length_map, List.length_cons, List.length_nil, Nat.zero_add, Nat.reduceAdd]
 have hwa := (Only.refl (fun _ => False) w3).alloc (.cells #[.string ⟨#[114, 101, 97, 100]⟩, .string ⟨#[40, 41, 73]⟩, .int .i64 8, .int .i64 0, .string ⟨#[99, 108, 111, 99, 107]⟩, .string ⟨#[40, 41, 74]⟩, .int .i64 8, .int .i64 0, .string ⟨#[119, 114, 105, 116, 101]⟩, .string ⟨#[40, 74, 41, 86]⟩, .int .i64 8, .int .i64 0] 146)
 have hsys : MRow (w3.alloc (.cells #[.string ⟨#[114, 101, 97, 100]⟩, .string ⟨#[40, 41, 73]⟩, .int .i64 8, .int .i64 0, .string ⟨#[99, 108, 111, 99, 107]⟩, .string ⟨#[40, 41, 74]⟩, .int .i64 8, .int .i64 0, .string ⟨#[119, 114, 105, 116, 101]⟩, .string ⟨#[40, 74, 41, 86]⟩, .int .i64 8, .int .i64 0] 146)) w3.heap.size (.slice (some ⟨w3.heap.size, 0, none⟩) 3 3) [⟨readB, retIB, 8⟩, ⟨clockB, retJB, 8⟩, ⟨writeB, argJB, 8⟩] :=
  ⟨rfl, .inr ⟨w3.heap.size, 3, _, rfl, Nat.le_refl _, heap_alloc_new w3 _, Nat.le_refl _, by unfold maxLen; omega, rfl, rfl⟩⟩
 obtain ⟨wa, hwae⟩ : ∃ wa, w3.alloc (.cells #[.string ⟨#[114, 101, 97, 100]⟩, .string ⟨#[40, 41, 73]⟩, .int .i64 8, .int .i64 0, .string ⟨#[99, 108, 111, 99, 107]⟩, .string ⟨#[40, 41, 74]⟩, .int .i64 8, .int .i64 0, .string ⟨#[119, 114, 105, 116, 101]⟩, .string ⟨#[40, 74, 41, 86]⟩, .int .i64 8, .int .i64 0] 146) = wa := ⟨_, rfl⟩
 rw [hwae] at hwa hsys
 have hza : wa.heap.size = w3.heap.size + 1 := by rw [← hwae]; simp
 have hwb := (Only.refl (fun _ => False) wa).alloc (.cells #[.string ⟨#[79, 98, 106, 101, 99, 116]⟩, .string ⟨#[]⟩, .slice a1 4 c1, .string ⟨#[84, 104, 114, 111, 119, 97, 98, 108, 101]⟩, .string ⟨#[79, 98, 106, 101, 99, 116]⟩, .slice a2 1 c2, .string ⟨#[84, 104, 114, 101, 97, 100]⟩, .string ⟨#[79, 98, 106, 101, 99, 116]⟩, .slice a3 4 c3, .string ⟨#[83, 121, 115]⟩, .string ⟨#[79, 98, 106, 101, 99, 116]⟩, .slice (some ⟨w3.heap.size, 0, none⟩) 3 3] 126)
 have hbrow : BRow (wa.alloc (.cells #[.string ⟨#[79, 98, 106, 101, 99, 116]⟩, .string ⟨#[]⟩, .slice a1 4 c1, .string ⟨#[84, 104, 114, 111, 119, 97, 98, 108, 101]⟩, .string ⟨#[79, 98, 106, 101, 99, 116]⟩, .slice a2 1 c2, .string ⟨#[84, 104, 114, 101, 97, 100]⟩, .string ⟨#[79, 98, 106, 101, 99, 116]⟩, .slice a3 4 c3, .string ⟨#[83, 121, 115]⟩, .string ⟨#[79, 98, 106, 101, 99, 116]⟩, .slice (some ⟨w3.heap.size, 0, none⟩) 3 3] 126)) w.heap.size (.slice (some ⟨wa.heap.size, 0, none⟩) 4 4) [(builtK.getD 0 default, .slice a1 4 c1), (builtK.getD 1 default, .slice a2 1 c2), (builtK.getD 2 default, .slice a3 4 c3), (builtK.getD 3 default, .slice (some ⟨w3.heap.size, 0, none⟩) 3 3)] :=
  ⟨rfl, .inr ⟨wa.heap.size, 4, _, rfl, Nat.le_trans HO3.out.size hwa.size, heap_alloc_new wa _, Nat.le_refl _, by unfold maxLen; omega, rfl, rfl⟩⟩
 obtain ⟨wb, hwbe⟩ : ∃ wb, wa.alloc (.cells #[.string ⟨#[79, 98, 106, 101, 99, 116]⟩, .string ⟨#[]⟩, .slice a1 4 c1, .string ⟨#[84, 104, 114, 111, 119, 97, 98, 108, 101]⟩, .string ⟨#[79, 98, 106, 101, 99, 116]⟩, .slice a2 1 c2, .string ⟨#[84, 104, 114, 101, 97, 100]⟩, .string ⟨#[79, 98, 106, 101, 99, 116]⟩, .slice a3 4 c3, .string ⟨#[83, 121, 115]⟩, .string ⟨#[79, 98, 106, 101, 99, 116]⟩, .slice (some ⟨w3.heap.size, 0, none⟩) 3 3] 126) = wb := ⟨_, rfl⟩
 rw [hwbe] at hwb hbrow
 have hzb : wb.heap.size = wa.heap.size + 1 := by rw [← hwbe]; simp
 have hwc := (Only.refl (fun _ => False) wb).alloc (.cells #[.string ⟨#[78, 117, 108, 108, 69, 114, 114, 111, 114]⟩, .string ⟨#[66, 111, 117, 110, 100, 115, 69, 114, 114, 111, 114]⟩, .string ⟨#[67, 97, 115, 116, 69, 114, 114, 111, 114]⟩, .string ⟨#[68, 105, 118, 69, 114, 114, 111, 114]⟩, .string ⟨#[79, 119, 110, 101, 114, 69, 114, 114, 111, 114]⟩, .string ⟨#[77, 101, 109, 111, 114, 121, 69, 114, 114, 111, 114]⟩, .string ⟨#[68, 101, 112, 116, 104, 69, 114, 114, 111, 114]⟩, .string ⟨#[83, 105, 122, 101, 69, 114, 114, 111, 114]⟩, .string ⟨#[83, 116, 111, 114, 101, 69, 114, 114, 111, 114]⟩] 9)
 have hstr : StrS (wb.alloc (.cells #[.string ⟨#[78, 117, 108, 108, 69, 114, 114, 111, 114]⟩, .string ⟨#[66, 111, 117, 110, 100, 115, 69, 114, 114, 111, 114]⟩, .string ⟨#[67, 97, 115, 116, 69, 114, 114, 111, 114]⟩, .string ⟨#[68, 105, 118, 69, 114, 114, 111, 114]⟩, .string ⟨#[79, 119, 110, 101, 114, 69, 114, 114, 111, 114]⟩, .string ⟨#[77, 101, 109, 111, 114, 121, 69, 114, 114, 111, 114]⟩, .string ⟨#[68, 101, 112, 116, 104, 69, 114, 114, 111, 114]⟩, .string ⟨#[83, 105, 122, 101, 69, 114, 114, 111, 114]⟩, .string ⟨#[83, 116, 111, 114, 101, 69, 114, 114, 111, 114]⟩] 9)) (.slice (some ⟨wb.heap.size, 0, none⟩) 9 9) errNames := StrS.new (ns := errNames) (by decide)
 obtain ⟨wc, hwce⟩ : ∃ wc, wb.alloc (.cells #[.string ⟨#[78, 117, 108, 108, 69, 114, 114, 111, 114]⟩, .string ⟨#[66, 111, 117, 110, 100, 115, 69, 114, 114, 111, 114]⟩, .string ⟨#[67, 97, 115, 116, 69, 114, 114, 111, 114]⟩, .string ⟨#[68, 105, 118, 69, 114, 114, 111, 114]⟩, .string ⟨#[79, 119, 110, 101, 114, 69, 114, 114, 111, 114]⟩, .string ⟨#[77, 101, 109, 111, 114, 121, 69, 114, 114, 111, 114]⟩, .string ⟨#[68, 101, 112, 116, 104, 69, 114, 114, 111, 114]⟩, .string ⟨#[83, 105, 122, 101, 69, 114, 114, 111, 114]⟩, .string ⟨#[83, 116, 111, 114, 101, 69, 114, 114, 111, 114]⟩] 9) = wc := ⟨_, rfl⟩
 rw [hwce] at hwc hstr
 have h3c := (hwa.trans hwb (fun _ h _ => h)).trans hwc (fun _ h _ => h)
 have hbim : BiM w.heap.size (.slice (some ⟨wa.heap.size, 0, none⟩) 4 4) wc [(builtK.getD 0 default, .slice a1 4 c1), (builtK.getD 1 default, .slice a2 1 c2), (builtK.getD 2 default, .slice a3 4 c3), (builtK.getD 3 default, .slice (some ⟨w3.heap.size, 0, none⟩) 3 3)] := by
  have key : ∀ {ms : List MethN} {u : Value} {B' : Nat} {W : World}, MRow W B' u ms → w.heap.size ≤ B' → W.heap.size ≤ wa.heap.size → Only (fun _ => False) W wc → MemG (fun k => k < w.heap.size ∨ (Value.slice (some ⟨wa.heap.size, 0, none⟩) 4 4).ownBlock = some k) wc u ms :=
   fun hm hb hs ho => (hm.bim hb (fun k hk => by have e : wa.heap.size = k := Option.some.inj hk; omega)).only ho (fun _ h => h.elim)
  have s0 := HA1.out.size
  have s1 := HO1.out.size
  have s2 := HA2.out.size
  have s3 := HO2.out.size
  have s4 := HA3.out.size
  have s5 := HO3.out.size
  have z1 := HO2r.out.size
  have z2 := HO3r.out.size
  have z0 := hwa.size
  intro p hp
  simp only [List.mem_cons, List.mem_nil_iff, or_false] at hp
  rcases hp with rfl | rfl | rfl | rfl
  ·exact ⟨rfl, key HR1.out s0 (by omega) ((HO2r.out.trans HO3r.out (fun _ h _ => h)).trans h3c (fun _ h _ => h))⟩
  ·exact ⟨rfl, key HR2.out s2 (by omega) (HO3r.out.trans h3c (fun _ h _ => h))⟩
  ·exact ⟨rfl, key HR3.out s4 (by omega) h3c⟩
  ·exact ⟨rfl, key hsys s5 (by omega) (hwb.trans hwc (fun _ h _ => h))⟩
 have HBROW := hid (hbrow.only hwc (fun _ _ h => h))
 have HBIM := hid hbim
 have HSTR := hid hstr
 have HOC := hid (HO3.out.trans h3c (fun _ h _ => h))
 have HZC := hid (show wc.heap.size = wb.heap.size + 1 by rw [← hwce]; simp)
 have HWA := hid hwae
 have HWB := hid hwbe
 have HWC := hid hwce
 have HZA := hid hza
 have HZB := hid hzb
 clear hwa hsys hwb hbrow hwc hstr h3c hbim hwae hwbe hwce hza hzb C1 C2 C3 HA1 HO1 HA2 HO2 HA3 HR1 HR2 HR3 HO2r HO3r HA2r HA3r
 go_wp2
 rw [HWA.out]
 rw [show w3.heap.size + 1 = wa.heap.size from HZA.out.symm]
 rw [HWB.out, show wa.heap.size + 1 = wb.heap.size from HZB.out.symm, HWC.out]
 go_loopw [21, 1] (fun iv lv wr => ∃ (j : Nat) (l : List (KindV × Value)), iv = .int .i64 j ∧ j ≤ 9 ∧ Hid (l.map (·.1) = builtK.take (4 + j)) ∧ Hid (BRow wr w.heap.size lv l) ∧ Hid (BiM w.heap.size lv wr l) ∧ Hid (StrS wr (.slice (some ⟨wb.heap.size, 0, none⟩) 9 9) errNames) ∧ Hid (∀ k, lv.ownBlock = some k → k ≠ wb.heap.size) ∧ Hid (Only (fun _ => False) w wr)) (fun iv _ _ => 9 - (intOf iv).toNat)
 case atStart => exact ⟨0, _, rfl, Nat.zero_le _, hid rfl, HBROW, HBIM, HSTR, hid (fun k hk => by have e : wa.heap.size = k := Option.some.inj hk; have := HZB.out; omega), HOC⟩
 case round =>
  obtain ⟨j, l, rfl, hj, HL, HROW, HBM, HST, HNE, HON⟩ := hrel
  by_cases hlt : j < 9
  ·have hjz : (j : Int) < 9 := by omega
   have hj0 : (0 : Int) ≤ (j : Int) := by omega
   obtain ⟨b, o, hbo, y⟩ := Sl.at (show Sl (.slice (some ⟨wb.heap.size, 0, none⟩) 9 9) 9 _ from HST.out) hlt
   injection hbo with hbo
   injection hbo with hb ho' _
   subst hb
   subst ho'
   simp only [Nat.zero_add] at y
   have HTK := hid (builtK_take hlt)
   have hll : l.length ≤ 12 := by
    have := congrArg List.length HL.out
    rw [List.length_map, List.length_take, builtK_len] at this
    omega
   generalize errNames.getD j ⟨#[]⟩ = x at *
   obtain ⟨al, cl, rfl, l1, l2, -, -⟩ := id HROW.out.bis
   have hal5 := (Only.refl (fun _ => False) wr).alloc (.cells #[.string ⟨#[60, 105, 110, 105, 116, 62]⟩] 9)
   have hst5 : StrS (wr.alloc (.cells #[.string ⟨#[60, 105, 110, 105, 116, 62]⟩] 9)) (.slice (some ⟨wr.heap.size, 0, none⟩) 1 1) [initB] := StrS.new (ns := [initB]) (by decide)
   have C5 := hid (CS.out _ _ _ hst5 (by decide))
   have HA5 := hid hal5
   clear hal5 hst5
   go_wp2_with (fail)
   refine C5.out.mono ?_
   rintro e w5 ⟨r5, rfl, hr5, ho5⟩
   obtain ⟨a5, c5, rfl, -⟩ := id hr5.flds
   simp only [List.length_map, List.length_cons, List.length_nil, Nat.zero_add]
   have hor5 := HA5.out.trans ho5 (fun _ h _ => h)
   have ho6 := (Only.refl (fun _ => False) w5).alloc (.cells #[.string x, .string ⟨#[84, 104, 114, 111, 119, 97, 98, 108, 101]⟩, .slice a5 1 c5] 126)
   have h56 := hor5.trans ho6 (fun _ h _ => h)
   have HROW5 := hid (HROW.out.only h56 (fun _ _ h => h))
   have HBASE := hid (Nat.le_trans HON.out.size h56.size)
   have HSRC := hid (Src.builtin (w := w5) x ⟨#[84, 104, 114, 111, 119, 97, 98, 108, 101]⟩ (.slice a5 1 c5) (errK x, .slice a5 1 c5) rfl rfl rfl)
   have HON4 := hid (HON.out.trans h56 (fun _ h _ => h))
   have hge := HROW.out.ge
   have hbm5 := HBM.out.only h56 (fun _ h => h.elim)
   have hmr : MemG (fun k => k < w.heap.size ∨ (Value.slice al l.length cl).ownBlock = some k) (w5.alloc (.cells #[.string x, .string ⟨#[84, 104, 114, 111, 119, 97, 98, 108, 101]⟩, .slice a5 1 c5] 126)) (.slice a5 1 c5) (errK x).meths :=
    (MRow.bim hr5 (Nat.le_trans HON.out.size HA5.out.size) (fun k hk => .inl (Nat.lt_of_lt_of_le (hge k hk).2 HA5.out.size))).only ho6 (fun _ h => h.elim)
   have HBM6 := hid (hbm5.snoc (k := errK x) (u := .slice a5 1 c5) rfl hmr)
   have HST6 := hid (HST.out.only h56)
   have HGE6 := hid (fun k (hk : (Value.slice al l.length cl).ownBlock = some k) => HNE.out k hk)
   have HSB := hid (show wb.heap.size < (w5.alloc (.cells #[.string x, .string ⟨#[84, 104, 114, 111, 119, 97, 98, 108, 101]⟩, .slice a5 1 c5] 126)).heap.size from Nat.lt_of_lt_of_le (World.block_lt_of_cell? _ _ y) h56.size)
   clear ho5 hor5 ho6 h56 hr5 hge hbm5 hmr y C5
   go_wp2_with (at_builtin; go_loud (refine wpList_append_src rfl (.tmp 25) (.tmp 30) 122 rfl 126 i0 (.agg #[.string ⟨#[]⟩, .string ⟨#[]⟩, .slice none 0 0]) 3 56 Tryz.underlying122 hi hz0 hz1 hz2 rfl (by decide) w.heap.size (.slice al l.length cl) l.length (l.flatMap cellsBi) rfl (by exact HROW5.out) (by exact HBASE.out) (.slice (some ⟨w5.heap.size, 0, none⟩) 1 1) 1 (cellsBi (errK x, .slice a5 1 c5)) rfl (by exact HSRC.out) (by unfold maxLen; omega) (by omega) ?_); intro v' w6 hown hgrow hnew; have hos := only_grownT hgrow; have hrow6 := BRow.more hown; have hon6 := HON4.out.trans hos (fun j hj hl => by have := (HROW5.out.ge _ hj).1; omega); have hbm6 := HBM6.out.append hos hnew; have hst6 := HST6.out.onlyS hos (fun k hk hS => HGE6.out k hS (by have e : wb.heap.size = k := Option.some.inj hk; omega)); have HST7 := hid hst6; have hne6 : ∀ k, v'.ownBlock = some k → k ≠ wb.heap.size := (fun k hk => by have h1 := hnew k hk; have h2 := HSB.out; rcases h1 with h1 | h1; exact HGE6.out k h1; omega); clear hown hgrow hnew; have HROW6 := hid hrow6; have HON6 := hid hon6; have HBM7 := hid hbm6; have HNE7 := hid hne6; clear hrow6 hon6 hbm6 hst6 hne6)
   go_roundw
   case rel => exact ⟨j + 1, _, rfl, by omega, hid (by rw [List.map_append, HL.out, HTK.out]; rfl), HROW6, HBM7, HST7, HNE7, HON6⟩
   case measure => show _ - _ < _ - _; simp only [intOf]; omega
  ·have hje : j = 9 := by omega
   subst hje
   go_wp2
   go_ret
   exact ⟨_, _, rfl, by rw [HL.out]; rfl, HROW.out, HBM.out, HON.out⟩
set_option maxRecDepth 100000 in
theorem pBuilt (w : World) : Calls Tryz.prog 112 #[] w fun e w' => e = .returned (.int .i64 13) ∧ Only (fun _ => False) w w' := by
 have C := hid (pBuiltIns w)
 go_enter Tryz.func112, Tryz.ntmps112
 go_wp2_with (fail)
 refine C.out.mono ?_
 rintro e w1 ⟨r, l, rfl, hl, hrow, -, ho⟩
 obtain ⟨al, cl, rfl, l1, l2, -, -⟩ := id hrow.bis
 have hll : l.length = 13 := by rw [← List.length_map (f := (·.1)), hl]; rfl
 rw [hll] at l1 ⊢
 have HO := hid ho
 clear ho hrow hl hll
 go_wp2
 go_ret
 exact ⟨rfl, HO.out⟩
theorem info_kpair : (Tryz.prog.info? 163).map (fun i => (i.zero, i.size, i.bytes)) = some (some (.agg #[.string ⟨#[]⟩, .string ⟨#[]⟩]), 2, 32) := by kernel_rfl
theorem run_mkP (n : Nat) (hn : n ≤ 4096) (w : World) : (Instr.makeSlice 53 (.int .i64 (n : Int)) (.int .i64 (n : Int))).run Tryz.prog w = .ok (.slice (some ⟨w.heap.size, 0, none⟩) n n) (w.alloc (.cells (madeCells #[.string ⟨#[]⟩, .string ⟨#[]⟩] (n * 2)) 163)) := by
 obtain ⟨i0, hi, hz0, hz1, hz2⟩ := info_parts info_kpair
 have := run_make (P := Tryz.prog) w 53 163 i0 _ Tryz.underlying53 hi hz0 .i64 .i64 (n : Int) (n : Int) (by omega) (Int.le_refl _) (by rw [hz2]; omega) (by omega)
 simp only [Int.toNat_natCast, hz1] at this
 exact this
def LaidP (cur : Array Value) (n : Nat) (l : List PairV) (j : Nat) : Prop := cur.size = n * 2 ∧ ∀ i, i < j → cur[i * 2]? = some (.string (l.getD i default).name) ∧ cur[i * 2 + 1]? = some (.string (l.getD i default).super)
theorem LaidP.step {cur : Array Value} {n : Nat} {l : List PairV} {j : Nat} {x y : ByteArray} (h : LaidP cur n l j) (hj : j < n) (hx : x = (l.getD j default).name) (hy : y = (l.getD j default).super) : LaidP ((cur.setIfInBounds (j * 2) (.string x)).setIfInBounds (j * 2 + 1) (.string y)) n l (j + 1) := by
 obtain ⟨h1, h2⟩ := h
 refine ⟨by simpa using h1, fun i hi => ?_⟩
 by_cases hij : i = j
 ·subst hij
  subst hx
  subst hy
  constructor
  ·rw [Array.getElem?_setIfInBounds_ne (by omega), Array.getElem?_setIfInBounds_self_of_lt (by omega)]
  ·rw [Array.getElem?_setIfInBounds_self_of_lt (by rw [Array.size_setIfInBounds]; omega)]
 ·obtain ⟨a, b⟩ := h2 i (by omega)
  constructor
  ·rw [Array.getElem?_setIfInBounds_ne (by omega), Array.getElem?_setIfInBounds_ne (by omega)]; exact a
  ·rw [Array.getElem?_setIfInBounds_ne (by omega), Array.getElem?_setIfInBounds_ne (by omega)]; exact b
section
variable {G : Nat → Prop} {fv : Nat → Value} {w : World} {pb : Nat} {ks : List KindV} {cl : Nat → ClassV} {sl : Nat → Nat → Int} (h : ProgG G fv w pb ks cl sl) (hpos : 0 < ks.length) (hsm : ks.length ≤ 64)
include h hpos hsm
set_option maxRecDepth 100000 in
theorem pTree : Calls Tryz.prog 45 #[.pointer (some ⟨pb, 0, none⟩)] w fun e w' => ∃ r, e = .returned r ∧ Pairs w' r (treeZ ks) ∧ Only (fun _ => False) w w' := by
 have C1 := hid (pLen h hpos)
 obtain ⟨n, hn⟩ : ∃ n, ks.length = n := ⟨_, rfl⟩
 have hmk := run_mkP n (by omega)
 have hb0 := heap_alloc_new w (.cells (madeCells #[.string ⟨#[]⟩, .string ⟨#[]⟩] (n * 2)) 163)
 have hlp : LaidP (madeCells #[.string ⟨#[]⟩, .string ⟨#[]⟩] (n * 2)) n (treeZ ks) 0 := ⟨size_madeCells _ _, fun i hi => by omega⟩
 have ho0 := (Only.refl (fun _ => False) w).alloc (.cells (madeCells #[.string ⟨#[]⟩, .string ⟨#[]⟩] (n * 2)) 163)
 generalize madeCells #[.string ⟨#[]⟩, .string ⟨#[]⟩] (n * 2) = mc at *
 have HB0 := hid hb0
 have HLP := hid hlp
 have HO0 := hid ho0
 obtain ⟨b, o, cap, mb, g0, -, e1, e2, -, hk⟩ := h.open hpos
 have HK := hid hk
 have HN := hid hn
 rw [hn] at C1 g0 e1
 have hn64 : n ≤ 64 := by omega
 clear hb0 hlp ho0 hk h hn
 go_enter Tryz.func45, Tryz.ntmps45
 go_wp2_with (fail)
 refine C1.out.mono ?_
 rintro e w1 ⟨rfl, hww⟩
 subst hww
 go_wp2
 go_loopw [10] (fun iv wr => ∃ (j : Nat) (cur : Array Value), iv = .int .i64 j ∧ j ≤ n ∧ Hid (wr.heap[w.heap.size]? = some (.cells cur 163 (0, 0))) ∧ Hid (LaidP cur n (treeZ ks) j) ∧ Hid (Only (fun _ => False) w wr)) (fun iv _ => n - (intOf iv).toNat)
 case atStart => exact ⟨0, mc, rfl, Nat.zero_le _, HB0, HLP, HO0⟩
 case round =>
  obtain ⟨j, cur, rfl, hj, HB, HL, HO⟩ := hrel
  by_cases hlt : j < n
  ·have hjz : (j : Int) < (n : Int) := by omega
   have hj0 : (0 : Int) ≤ (j : Int) := by omega
   have hjk : j < ks.length := by rw [HN.out]; exact hlt
   obtain ⟨iv, gi, hkn⟩ := HK.out j hjk
   obtain ⟨T, v, vom, rfl, ⟨na, hqa, hena, hca⟩, ⟨ns, hqs, hens, hcs⟩, -, -, -⟩ := hkn.told
   have q0 := HO.out.cell g0 (fun h => h)
   have qi := HO.out.cell gi (fun h => h)
   have HT := hid (treeZ_at hjk)
   have CN := hid hca
   have CSU := hid hcs
   obtain ⟨u0, hu0⟩ : ∃ u0, cur[j * 2]? = some u0 := ⟨cur[j * 2]'(by have := HL.out.1; omega), by rw [Array.getElem?_eq_getElem]⟩
   obtain ⟨u1, hu1⟩ : ∃ u1, cur[j * 2 + 1]? = some u1 := ⟨cur[j * 2 + 1]'(by have := HL.out.1; omega), by rw [Array.getElem?_eq_getElem]⟩
   have HU0 := hid hu0
   have HU1 := hid hu1
   generalize (ks.getD j default).name = x at *
   generalize (ks.getD j default).super = y at *
   have TO : Hid (∀ W, Only (fun _ => False) w W → Only (fun _ => False) w ((W.setCell ⟨w.heap.size, j * 2, none⟩ (.string x)).setCell ⟨w.heap.size, j * 2 + 1, none⟩ (.string y))) := hid (fun W hW => (hW.setCell (fun hl => absurd hl (Nat.lt_irrefl _)) _).setCell (fun hl => absurd hl (Nat.lt_irrefl _)) _)
   clear hkn hca hcs hu0 hu1
   go_wp2
   refine wp_region_held_drew (S := fun wc => wc.cell? ⟨pb, 0, none⟩ = some (.slice (some ⟨b, o, none⟩) n cap) ∧ wc.cell? ⟨b, o + j, none⟩ = some (.iface T v)) (by kernel_rfl) ⟨q0, qi⟩ (fun hHeld => ?_)
   refine tk2 0 (h := ?_)
   refine tk2 1 (h := ?_)
   refine tk2 2 (h := ?_)
   refine tk2 3 (h := ?_)
   refine tk2 4 (h := ?_)
   refine tk2 5 (h := ?_)
   refine tk2 6 (h := ?_)
   refine tk2 7 (h := ?_)
   refine tk2 8 (h := ?_)
   refine tk2 10 (h := ?_)
   refine tk2 11 (h := ?_)
   refine tk2 12 (h := ?_)
   refine tk2 13 (h := ?_)
   refine tk2 14 (h := ?_)
   refine tk2 15 (h := ?_)
   refine tk2 16 (h := ?_)
   refine tkR 9 (h := fun K hK => ?_)
   go_simp
   (refine (CN.out _ HO.out.drew).mono ?_; rintro e1 w1 ⟨rfl, ho1⟩; have HO1 := hid (HO.out.drew.trans ho1 (fun _ h _ => h)))
   go_wp2_with fail
   refine hK.out _ _ ?_ (fun hHeld2 => ?_)
   ·exact ⟨HO1.out.cell g0 (fun h => h), HO1.out.cell gi (fun h => h)⟩
   clear hK K
   try simp only [Act.put, sIB, sC0, sCS]
   clear hHeld
   have hHeld := hHeld2
   clear hHeld2
   refine tkR 17 (h := fun K hK => ?_)
   go_simp
   (refine (CSU.out _ HO1.out).mono ?_; rintro e2 w2 ⟨rfl, ho2⟩; have HO2 := hid (HO1.out.trans ho2 (fun _ h _ => h)); have hb2 := ho2.heap (ho1.heap HB.out (fun h => h)) (fun h => h); have x0 : w2.cell? ⟨w.heap.size, j * 2, none⟩ = some u0 := (cell_blk hb2 _).trans HU0.out; have x1 : w2.cell? ⟨w.heap.size, j * 2 + 1, none⟩ = some u1 := (cell_blk hb2 _).trans HU1.out; have f0 := frozen_blk hb2 (j * 2); have f1 := frozen_blk hb2 (j * 2 + 1); have HB2 := hid hb2; clear hb2)
   go_wp2_with fail
   refine hK.out _ _ ?_ (fun hHeld2 => ?_)
   ·exact ⟨HO2.out.cell g0 (fun h => h), HO2.out.cell gi (fun h => h)⟩
   clear hK K
   try simp only [Act.put, sIB, sC0, sCS]
   clear hHeld
   have hHeld := hHeld2
   clear hHeld2
   refine tk2 18 (h := ?_)
   refine tk2 19 (h := ?_)
   refine tkR 20 (h := fun K hK => ?_)
   go_simp
   refine hK.out _ _ ?_ (fun hHeld2 => ?_)
   ·exact ⟨(TO.out _ HO2.out).cell g0 (fun h => h), (TO.out _ HO2.out).cell gi (fun h => h)⟩
   clear hK K
   try simp only [Act.put, sIB, sC0, sCS]
   clear hHeld
   have hHeld := hHeld2
   clear hHeld2
   refine wpAnyH_done (by kernel_rfl) ?_ _
   have hb3 := heap_setCell_at (i := j * 2 + 1) (u := .string y) (heap_setCell_at (i := j * 2) (u := .string x) HB2.out)
   have HB3 := hid hb3
   have HL3 := hid (HL.out.step (x := x) (y := y) hlt (by rw [HT.out]) (by rw [HT.out]))
   have HO3 := hid (TO.out _ HO2.out)
   clear hb3 x0 x1 f0 f1 hHeld ho1 ho2
   go_wp2
   go_roundw
   case rel => exact ⟨j + 1, _, by go_num, by omega, HB3, HL3, HO3⟩
   case measure => simp [intOf]; omega
  ·have hje : j = n := by omega
   subst hje
   have HR : Hid (Pairs wr (.slice (some ⟨w.heap.size, 0, none⟩) j j) (treeZ ks)) := hid (by
    have hl : (treeZ ks).length = j := by rw [treeZ_len, HN.out]
    unfold Pairs
    rw [hl]
    refine ⟨_, _, rfl, Nat.le_refl _, by omega, (fun e => by cases e), fun z hz h0 => ?_⟩
    cases hz
    refine ⟨_, 0, rfl, fun i hi => ?_⟩
    obtain ⟨a, c⟩ := HL.out.2 i hi
    exact ⟨by rw [Nat.zero_add, cell_blk HB.out]; exact a, by rw [Nat.zero_add, cell_blk HB.out]; exact c⟩)
   clear hlt hj
   go_wp2
   go_ret
   exact ⟨_, rfl, HR.out, HO.out⟩
end
section
variable {G : Nat → Prop} {fv : Nat → Value} {w : World} {pb : Nat} {ks : List KindV} {cl : Nat → ClassV} {sl : Nat → Nat → Int} (h : ProgG G fv w pb ks cl sl) (hg : GoodK ks)
include h hg
omit h in
theorem name_small (n : Int) : (nameZ ks n).size ≤ 256 := by
 unfold nameZ
 split
 ·decide
 ·by_cases hn : n.toNat < ks.length
  ·exact (hg.fine _ (getD_mem hn)).name
  ·have : (ks.getD n.toNat default) = default := by simp [List.getD, List.getElem?_eq_none (show ks.length ≤ n.toNat by omega)]
   rw [this]
   decide
set_option maxRecDepth 100000 in
theorem pMain : Calls Tryz.prog 69 #[.pointer (some ⟨pb, 0, none⟩)] w fun e w' => e = .returned (valM (mainZ ks)) ∧ Only (fun _ => False) w w' := by
 have hp0 := hg.pos
 have ho0 := (Only.refl (fun _ => False) w).alloc (.cells #[.int .i64 0, .int .i64 0, .string ⟨#[]⟩, .bool false, .int .i64 0] 138)
 have hr0 := heap_alloc_new w (.cells #[.int .i64 0, .int .i64 0, .string ⟨#[]⟩, .bool false, .int .i64 0] 138)
 obtain ⟨W0, hW0⟩ : ∃ W0, w.alloc (.cells #[.int .i64 0, .int .i64 0, .string ⟨#[]⟩, .bool false, .int .i64 0] 138) = W0 := ⟨_, rfl⟩
 rw [hW0] at ho0 hr0
 have C1 := hid (pBuilt W0)
 have C2 := hid (fun W (hW : Only (fun _ => False) w W) => pName (h.only hW) (by omega) 13)
 have C3 := hid (fun W (hW : Only (fun _ => False) w W) => pOwn (h.only hW) hg (nameZ ks 13) mainB voidB (by have := name_small hg 13; unfold maxLen; omega))
 obtain ⟨m, hm⟩ : ∃ m, m = mainZ ks := ⟨_, rfl⟩
 have HM : Hid (memO (ownZ ks (nameZ ks 13) mainB voidB) = m) := hid (by rw [hm]; rfl)
 rw [← hm]
 unfold mainB voidB at C3 HM
 generalize ownZ ks (nameZ ks 13) ⟨#[109, 97, 105, 110]⟩ ⟨#[40, 41, 86]⟩ = oz at *
 generalize nameZ ks 13 = nm at *
 obtain ⟨er, her⟩ : ∃ er, errM oz = er := ⟨_, rfl⟩
 have HER := hid her
 have HO := hid ho0
 have HR := hid hr0
 have HW0 := hid hW0
 clear h hg ho0 hr0 hm hW0 her
 go_enter Tryz.func69, Tryz.ntmps69
 go_wp2_with (fail)
 rw [HW0.out]
 refine C1.out.mono ?_
 rintro e w1 ⟨rfl, ho1⟩
 have HO1 := hid (HO.out.trans ho1 (fun _ h _ => h))
 go_wp2_with (fail)
 refine (C2.out _ HO1.out).mono ?_
 rintro e w2 ⟨rfl, ho2⟩
 have HO2 := hid (HO1.out.trans ho2 (fun _ h _ => h))
 go_wp2_with (fail)
 refine (C3.out _ HO2.out).mono ?_
 rintro e w3 ⟨rfl, ho3⟩
 rw [HM.out, HER.out]
 unfold valM
 have hal := (Only.refl (fun _ => False) w3).alloc (.cells #[.int .i64 m.cls, .int .i64 m.place, .string m.desc, .bool m.static, .int .i64 m.slot] 138)
 have hx := heap_alloc_new w3 (.cells #[.int .i64 m.cls, .int .i64 m.place, .string m.desc, .bool m.static, .int .i64 m.slot] 138)
 have hr3 := hal.heap (ho3.heap (ho2.heap (ho1.heap HR.out (fun h => h)) (fun h => h)) (fun h => h)) (fun h => h)
 have HO3 := hid ((HO2.out.trans ho3 (fun _ h _ => h)).trans hal (fun _ h _ => h))
 obtain ⟨f0, f1, f2, f3, f4⟩ := marks5T hr3
 obtain ⟨r0, r1, r2, r3, r4⟩ := cells5T hr3
 obtain ⟨x0, x1, x2, x3, x4⟩ := cells5T hx
 have HR3 := hid hr3
 clear hal hr3 ho3 ho2 ho1 C1 hx HM
 go_wp2
 exact bodyPost_ret (mem_alone (i := m) (b := w.heap.size) Tryz.results69 (store5T HR3.out) rfl) rfl ⟨rfl, only5T HO3.out (fun hl => absurd hl (Nat.lt_irrefl _))⟩
end
end Go.Proofs.YtinbelghhfodiaaGreatDoor
namespace Go.Proofs
open Go.Shelf
def Tryz.lays99_ren : Go.Shelf.Ren := ⟨fun | 99 => 90 | 206 => 124 | n => n, fun | 3 => 3 | 4 => 4 | 9 => 9 | n => n, fun | n => n⟩
set_option maxRecDepth 100000 in
theorem Tryz.lays99 : Go.Proofs.Lays.n99 Tryz.prog Tryz.lays99_ren := {
 mixed := by kernel_rfl
 f99 := Tryz.func90.trans (congrArg some (by kernel_rfl))
 f206 := Tryz.func124.trans (congrArg some (by kernel_rfl))
 t3 := Tryz.underlying3
 a3 := Tryz.isAgg3
 z3 := Tryz.sizeOf3
 v3 := Tryz.zeroValue3
 t4 := Tryz.underlying4
 a4 := Tryz.isAgg4
 z4 := Tryz.sizeOf4
 v4 := Tryz.zeroValue4
 t9 := Tryz.underlying9
 a9 := Tryz.isAgg9
 z9 := Tryz.sizeOf9
 v9 := Tryz.zeroValue9 }
theorem Tryz.strings_HasPrefix (s p : ByteArray) (w : World) :
  Calls Tryz.prog 90 #[.string s, .string p] w fun e w' => e = .returned (.bool (Lib.hasPrefix s.data.toList p.data.toList)) ∧ w' = w := Any.strings_HasPrefix Tryz.lays99 s p w
end Go.Proofs
namespace Go.Proofs.YtinbelghhfodiaaGreatDoor
set_option maxHeartbeats 8000000
open Lib (hid)
open Go.RowKit
set_option linter.unusedVariables false
set_option linter.unusedSimpArgs false
def headIs (c : Int) (zs : List Int) : Bool := decide (zs.head? = some c)
theorem prefix_one (s : ByteArray) (c : UInt8) : Lib.hasPrefix s.data.toList [c] = headIs c.toNat (nums s) := by
 unfold Lib.hasPrefix headIs nums numsL
 cases s.data.toList with
 | nil => rfl
 | cons x r =>
  simp only [List.map_cons, List.head?_cons, Option.some.injEq]
  rw [Bool.eq_iff_iff]
  simp only [List.isPrefixOf, Bool.and_true, beq_iff_eq, decide_eq_true_eq]
  constructor
  ·rintro rfl; rfl
  ·intro h
   exact UInt8.toNat_inj.1 (by omega)
theorem hasHead (s : ByteArray) (c : UInt8) (w : World) : Calls Tryz.prog 90 #[.string s, .string ⟨#[c]⟩] w fun e w' => e = .returned (.bool (headIs c.toNat (nums s))) ∧ w = w' := by
 refine (Tryz.strings_HasPrefix s ⟨#[c]⟩ w).mono ?_
 rintro e w' ⟨rfl, hw⟩
 exact ⟨by rw [← prefix_one], hw.symm⟩
theorem index_semi : ∀ l : List UInt8, Lib.indexByte l 59 = if semiZ (numsL l) = l.length then -1 else (semiZ (numsL l) : Int)
 | [] => rfl
 | b :: l => by
  have h := index_semi l
  have hle := semiZ_le (numsL l)
  have hln : (numsL l).length = l.length := by simp [numsL]
  unfold Lib.indexByte
  rw [show numsL (b :: l) = ((b.toNat : Nat) : Int) :: numsL l from rfl, List.length_cons]
  by_cases hb : b = 59
  ·subst hb
   have hz : semiZ ((((59 : UInt8).toNat : Nat) : Int) :: numsL l) = 0 := by rw [semiZ]; exact if_pos rfl
   have h1 : ¬ 0 = l.length + 1 := by omega
   rw [hz, if_neg h1]
   rfl
  ·have hb1 : (b == 59) = false := by rw [beq_eq_false_iff_ne]; exact hb
   have hb2 : ((b.toNat : Nat) : Int) ≠ 59 := fun e => hb (UInt8.toNat_inj.1 (by rw [show (59 : UInt8).toNat = 59 from rfl]; omega))
   have hz : semiZ (((b.toNat : Nat) : Int) :: numsL l) = semiZ (numsL l) + 1 := by rw [semiZ]; exact if_neg hb2
   rw [hz, hb1, h]
   by_cases hq : semiZ (numsL l) = l.length
   ·have hq1 : semiZ (numsL l) + 1 = l.length + 1 := by omega
    rw [if_pos hq, if_pos hq1]
    rfl
   ·have hq1 : ¬ semiZ (numsL l) + 1 = l.length + 1 := by omega
    have hx : ((semiZ (numsL l) : Int) == -1) = false := by rw [beq_eq_false_iff_ne]; omega
    rw [if_neg hq, if_neg hq1, hx]
    rfl
theorem index_semi_s (s : ByteArray) : Lib.indexByte s.data.toList 59 = if semiZ (nums s) = s.size then -1 else (semiZ (nums s) : Int) := by
 rw [index_semi, ← Lib.size_eq]
 rfl
set_option maxRecDepth 100000 in
theorem libIndexByte (s : ByteArray) (c : Int) (w : World) :
  Calls Tryz.prog 197 #[.string s, .int .u8 c] w fun e w' => e = .returned (.int .i64 (Lib.indexByte s.data.toList c.toNat.toUInt8)) ∧ w = w' := by
 go_enter Tryz.func197, Tryz.ntmps197
 go_wp2
 rw [run_callFunc_extern Tryz.func201 (by kernel_rfl) (by kernel_rfl) (by kernel_rfl) (e := Extern.BytealgIndexByte.indexByte) (by kernel_rfl), Lib.run_indexByteString]
 simp only [Result.andThen]
 rw [Oper.upon_value]
 go_wp2
 go_ret
 exact ⟨rfl, rfl⟩
set_option maxRecDepth 100000 in
theorem libIndexOne (s : ByteArray) (w : World) :
  Calls Tryz.prog 189 #[.string s, .string ⟨#[59]⟩] w fun e w' => e = .returned (.int .i64 (Lib.indexByte s.data.toList 59)) ∧ w = w' := by
 go_enter Tryz.func189, Tryz.ntmps189
 go_wp2_with (go_at_call 197; refine (libIndexByte _ _ _).mono ?_; rintro e w' ⟨rfl, rfl⟩)
 ·have h : ([59] == s.toList) = true := by assumption
  go_ret
  refine ⟨?_, rfl⟩
  have e : s.data.toList = [59] := by rw [← Lib.toList_data]; exact (beq_iff_eq.1 h).symm
  rw [e]
  rfl
 ·go_ret
  exact ⟨rfl, rfl⟩
theorem libIndexSemi (s : ByteArray) (w : World) :
  Calls Tryz.prog 189 #[.string s, .string ⟨#[59]⟩] w fun e w' => e = .returned (.int .i64 (if semiZ (nums s) = s.size then -1 else (semiZ (nums s) : Int))) ∧ w = w' := by
 rw [← index_semi_s]
 exact libIndexOne s w
def cutV (s : ByteArray) (k : Nat) : Value := if k = s.size then .tuple #[.string s, .string ⟨#[]⟩, .bool false] else .tuple #[.string (s.extract 0 k), .string (s.extract (k + 1) s.size), .bool true]
def cutTo (s : ByteArray) (w : World) (e : Ending) (w' : World) : Prop := e = .returned (cutV s (semiZ (nums s))) ∧ Drawn w w'
set_option maxRecDepth 100000 in
theorem libCutIn (s : ByteArray) (w : World) (hs : s.size ≤ 281474976710656) :
  Calls Tryz.prog 179 #[.string s, .string ⟨#[59]⟩] w (cutTo s w) := by
 have c1 := libIndexSemi s w
 have hle := semiZ_le (nums s)
 rw [nums_len] at hle
 unfold cutTo
 obtain ⟨k, hk⟩ : ∃ k, semiZ (nums s) = k := ⟨_, rfl⟩
 rw [hk] at c1 hle ⊢
 clear hk
 by_cases h : k = s.size
 ·rw [if_pos h] at c1
  rw [show cutV s k = _ from if_pos h]
  have C1 := hid c1
  clear c1 h hle
  go_enter Tryz.func179, Tryz.ntmps179
  go_wp2_with (fail)
  refine C1.out.mono ?_
  rintro e w' ⟨rfl, rfl⟩
  go_wp2
  go_ret3
  exact ⟨rfl, Drawn.refl _⟩
 ·rw [if_neg h] at c1
  rw [show cutV s k = _ from if_neg h]
  have C1 := hid c1
  have hk1 : k + 1 ≤ s.size := by omega
  have c0 : (0 : Int) ≤ (k : Int) := by omega
  have c2 : (k : Int) ≤ (s.size : Int) := by omega
  have c3 : (0 : Int) ≤ (k : Int) + 1 := by omega
  have c4 : (k : Int) + 1 ≤ (s.size : Int) := by omega
  have c5 : ((k : Int) + 1).toNat = k + 1 := by omega
  clear c1 h hle
  go_enter Tryz.func179, Tryz.ntmps179
  go_wp2_with (fail)
  refine C1.out.mono ?_
  rintro e w' ⟨rfl, rfl⟩
  go_wp2
  go_quiet (fail)
  go_wp2
  go_ret3
  exact ⟨rfl, _, rfl⟩
theorem libCut (s : ByteArray) (w : World) (hs : s.size ≤ 281474976710656) :
  Calls Tryz.prog 166 #[.string s, .string ⟨#[59]⟩] w (cutTo s w) := by
 have c1 := libCutIn s w hs
 unfold cutTo at c1 ⊢
 by_cases h : semiZ (nums s) = s.size
 ·rw [show cutV s (semiZ (nums s)) = _ from if_pos h] at c1 ⊢
  go_enter Tryz.func166, Tryz.ntmps166
  go_wp2_with (fail)
  refine c1.mono ?_
  rintro e w' ⟨rfl, hd⟩
  go_wp2
  go_ret3
  exact ⟨rfl, hd⟩
 ·rw [show cutV s (semiZ (nums s)) = _ from if_neg h] at c1 ⊢
  go_enter Tryz.func166, Tryz.ntmps166
  go_wp2_with (fail)
  refine c1.mono ?_
  rintro e w' ⟨rfl, hd⟩
  go_wp2
  go_ret3
  exact ⟨rfl, hd⟩
end Go.Proofs.YtinbelghhfodiaaGreatDoor
