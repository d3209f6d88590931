import Derived.Test.YtinbelghhfodiaaGreatDoorMaTlk
import Derived.Test.YtinbelghhfodiaaGreatDoorMaLpSLpU
import Derived.Test.YtinbelghhfodiaaGreatDoorMaLpJKndSh
import Derived.Test.YtinbelghhfodiaaGreatDoorMaTxtFArg
import Derived.Test.YtinbelghhfodiaaGreatDoorMaClsGLpE
namespace Go.Proofs.YtinbelghhfodiaaGreatDoor
set_option maxHeartbeats 16000000
open Lib (hid)
open Go.RowKit Go.Maps
set_option linter.unusedVariables false
set_option linter.unusedSimpArgs false
theorem few_cls {c : ClassV} (h : clsZ c = 0) : FewC c ∧ c.fields.length ≤ 64 ∧ c.methods.length ≤ 64 := by
  obtain ⟨h1, h2, h3⟩ := clsZ_zero h
  have h4 : ¬ 64 < c.fields.length := fun x => h2 (.inl x)
  have h5 : ¬ 64 < c.methods.length := fun x => h2 (.inr (.inl x))
  have h6 := (checkZ_zero h1).1
  refine ⟨⟨by omega, by omega, by omega, fun m hm => ?_⟩, by omega, by omega⟩
  have h7 : ¬ 64 < m.traps.length := fun x => h2 (.inr (.inr ⟨m, hm, x⟩))
  obtain ⟨-, ⟨-, b1, b2, -⟩, -⟩ := h3.2.2.2 m hm
  exact ⟨by omega, by omega, by omega⟩
theorem make_map0 (w : World) : (Instr.makeMap 118 none).run Tryz.prog w = .ok (.map (some w.heap.size)) (w.alloc (.map #[] 0)) := by
  have h : (underlying 118).run Tryz.prog w = .ok (.map 9 3) w := by kernel_rfl
  simp only [Instr.makeMap, Sem.run_bind, h, Result.andThen]
  rfl
theorem has_nil (k : Lit) : Maps.has (.map [] : DataW Unit) k = false := rfl
theorem names_nil {w : World} {mb : Nat} (h : w.ownsMap Tryz.prog 9 (plainElem (H := Unit) Tryz.prog 3) mb 0 (.map [])) : NamesM w mb [] :=
  ⟨0, _, Nat.le_refl _, h, isMap_empty, fun x => ⟨by rw [has_nil]; rfl, fun h => absurd (show findZ [] x < 0 by show (-1 : Int) < 0; decide) h⟩⟩
theorem take_stepK {l : List KindV} {j : Nat} (h : j < l.length) : l.take (j + 1) = l.take j ++ [l.getD j default] := by
  rw [List.take_succ_eq_append_getElem h]
  simp [List.getD, h]
theorem take_lenK {l : List KindV} {j : Nat} (h : j ≤ l.length) : (l.take j).length = j := by rw [List.length_take]; omega
theorem setV_const {α : Type} (x : α) (n : Nat) : setV (fun _ => x) n x = fun _ => x := by
  funext i
  unfold setV
  split <;> rfl
structure Along (w wr : World) (ks : List KindV) (fv : Nat → Value) (cl : Nat → ClassV) (cs : List ClassV) : Prop where
  only : Only (fun _ => False) w wr
  own : ∀ i b, i < ks.length → (fv i).ownBlock = some b → w.heap.size ≤ b
  cls : ∀ i, 13 ≤ i → i < ks.length → cl i = cs.getD (i - 13) default
def GatherTo (w : World) (cs : List ClassV) (e : Ending) (w' : World) : Prop :=
  ∃ pb fv cl, e = .returned (.pointer (some ⟨pb, 0, none⟩)) ∧ w.heap.size ≤ pb ∧ ProgG (fun b => ∃ i, i < (kindsZ cs).length ∧ (fv i).ownBlock = some b) fv w' pb (kindsZ cs) cl (fun _ _ => 0) ∧ Along w w' (kindsZ cs) fv cl cs
set_option maxRecDepth 100000 in
theorem pGather (v : Value) (cs : List ClassV) (w : World) (hc : Classes w v cs) (h0 : ∀ c ∈ cs, clsZ c = 0) (hl : cs.length ≤ 16) :
    Calls Tryz.prog 30 #[v] w (GatherTo w cs) := by
  obtain ⟨f, hsl, hcm⟩ := hc
  obtain ⟨ao, cap, rfl, p1, p2, p3, -⟩ := id hsl
  have ha0 := (Only.refl (fun _ => False) w).alloc (.map #[] 0)
  have ha1 := ha0.alloc (.cells #[.slice none 0 0, .map (some w.heap.size)] 121)
  have hp1 := heap_alloc_new (w.alloc (.map #[] 0)) (.cells #[.slice none 0 0, .map (some w.heap.size)] 121)
  have hm0 := World.ownsMap_made w Tryz.prog 9 (plainElem (H := Unit) Tryz.prog 3)
  have hm1 := names_nil (owns_map_only hm0 ((Only.refl (fun _ => False) (w.alloc (.map #[] 0))).alloc (.cells #[.slice none 0 0, .map (some w.heap.size)] 121)) (fun h => h))
  rw [World.size_alloc] at hp1
  have hs1 : ((w.alloc (.map #[] 0)).alloc (.cells #[.slice none 0 0, .map (some w.heap.size)] 121)).heap.size = w.heap.size + 2 := by simp
  obtain ⟨W1, hW1⟩ : ∃ W1, (w.alloc (.map #[] 0)).alloc (.cells #[.slice none 0 0, .map (some w.heap.size)] 121) = W1 := ⟨_, rfl⟩
  rw [hW1] at ha1 hp1 hm1 hs1
  have C1 := hid (pBuiltIns W1)
  have HW1 := hid hW1
  have HA1 := hid ha1
  have HP1 := hid hp1
  have HM1 := hid hm1
  have HS1 := hid hs1
  have HSL := hid hsl
  have HCM := hid hcm
  have H0 := hid h0
  have hmk := make_map0
  clear ha0 ha1 hp1 hm0 hm1 hs1 hW1 hsl hcm h0 p3
  go_enter Tryz.func30, Tryz.ntmps30
  go_wp2_with (fail)
  rw [HW1.out]
  refine C1.out.mono ?_
  rintro e w2 ⟨r, l, rfl, hlk, hbr, hbm, ho2⟩
  have hll : l.length = 13 := by rw [← List.length_map (f := (·.1)), hlk]; rfl
  obtain ⟨ar, cr, rfl, b1, b2, -, -⟩ := id hbr.bis
  have hrg : ∀ k, (Value.slice ar l.length cr).ownBlock = some k → W1.heap.size ≤ k ∧ k < w2.heap.size := fun k hk => hbr.ge k hk
  have hbm2 : ∀ p ∈ l, p.1.fields = [] ∧ MemG (fun k => (k < W1.heap.size ∨ (Value.slice ar l.length cr).ownBlock = some k) ∨ w2.heap.size ≤ k) w2 p.2 p.1.meths := fun p hp => ⟨(hbm p hp).1, (hbm p hp).2.mono (fun k hk h => h.elim id (fun h => by omega))⟩
  have hg0 : Gath w2.heap.size w2 (w.heap.size + 1) w.heap.size (.slice none 0 0) [] [] (fun _ => .slice none 0 0) (fun _ => default) :=
    ⟨ho2.heap HP1.out (fun h => h), HM1.out.only ho2 (fun h => h), World.ownsRow_nil _ _ _ _, Nat.le_refl _, ⟨by omega, (fun h => by cases h), fun h => by cases h⟩, (fun i hi => by cases hi), (fun i hi => by cases hi), (fun i b hi => by cases hi), (fun i j b hi => by cases hi)⟩
  have HG0 := hid hg0
  have HBR := hid hbr
  have HBM := hid hbm2
  have HRG := hid hrg
  have HLK := hid hlk
  have HO2 := hid (HA1.out.trans ho2 (fun _ h _ => h))
  have HSZ := hid (show W1.heap.size = w.heap.size + 2 ∧ W1.heap.size ≤ w2.heap.size from ⟨HS1.out, ho2.size⟩)
  have HLL := hid hll
  rw [hll] at b1 HBR HRG HBM ⊢
  clear hg0 hbr hbm hbm2 hrg hlk ho2 hll hmk
  go_wp2
  go_loopw [13] (fun iv wr => ∃ (j : Nat) (vl : Value) (ivs : List Value) (cl : Nat → ClassV), iv = .int .i64 j ∧ j ≤ 13 ∧ Hid (Gath w2.heap.size wr (w.heap.size + 1) w.heap.size vl (builtK.take j) ivs (fun _ => .slice none 0 0) cl) ∧
    Hid (BRow wr W1.heap.size (.slice ar 13 cr) l) ∧ Hid (∀ p ∈ l, p.1.fields = [] ∧ MemG (fun k => (k < W1.heap.size ∨ (Value.slice ar 13 cr).ownBlock = some k) ∨ w2.heap.size ≤ k) wr p.2 p.1.meths) ∧ Hid (Only (fun _ => False) w wr)) (fun iv _ => 13 - (intOf iv).toNat)
  case atStart => exact ⟨0, _, _, _, rfl, Nat.zero_le _, HG0, HBR, HBM, HO2⟩
  case round =>
    obtain ⟨j, vl, ivs, cl, rfl, hj, HG, HBW, HBX, HON⟩ := hrel
    by_cases hlt : j < 13
    · have hjz : (j : Int) < 13 := by omega
      have hj0 : (0 : Int) ≤ (j : Int) := by omega
      have hlj : j < l.length := by have := HLL.out; omega
      have hbs := HBW.out.bis
      unfold BiS at hbs
      rw [HLL.out] at hbs
      obtain ⟨b9, o9, rfl, hat⟩ := Sl.at hbs hlt
      obtain ⟨kq, u, hq⟩ : ∃ k u, (k, u) = l.getD j default := ⟨_, _, rfl⟩
      have hkq : kq = builtK.getD j default := by
        have h1 : (l.map (·.1)).getD j default = (l.getD j default).1 := by simp [List.getD, hlj]
        rw [HLK.out, ← hq] at h1
        exact h1.symm
      have hmem : (kq, u) ∈ l := by rw [hq]; exact getD_mem hlj
      rw [← hq] at hat
      obtain ⟨r0, r1, r2⟩ := hat
      have hfm := HBX.out _ hmem
      obtain ⟨hfe, hmg⟩ := hfm
      simp only at r0 r1 r2 hfe hmg
      obtain ⟨am, cm, rfl, -⟩ := id hmg
      have hfin := fine_built kq (by rw [hkq]; exact getD_mem (by rw [builtK_len]; exact hlt))
      have hstp := take_stepK (l := builtK) (j := j) (by rw [builtK_len]; exact hlt)
      have hkl := take_lenK (l := builtK) (j := j) (by rw [builtK_len]; omega)
      rw [← hkq] at hstp
      obtain ⟨ks, hks⟩ : ∃ ks, builtK.take j = ks := ⟨_, rfl⟩
      rw [hks] at HG hstp hkl
      have hgo := HG.out
      have hal := (Only.refl (fun _ => False) wr).alloc (.cells #[.string kq.name, .string kq.super, .slice am kq.meths.length cm] 126)
      have hbt := heap_alloc_new wr (.cells #[.string kq.name, .string kq.super, .slice am kq.meths.length cm] 126)
      have hgw := hgo.only hal
      have hvl : ∀ b, vl.ownBlock = some b → w2.heap.size ≤ b := fun b hb => (World.ownsRow.lt hgo.row b hb).1
      have hGG : ∀ b, GW (w.heap.size + 1) w.heap.size vl ks.length (fun _ => .slice none 0 0) b → ((b < W1.heap.size ∨ (Value.slice (some ⟨b9, o9, none⟩) 13 cr).ownBlock = some b) ∨ w2.heap.size ≤ b) := fun b hb => by
        have := HSZ.out
        rcases hb with h | h | h | ⟨_, _, h⟩
        · exact .inl (.inl (by omega))
        · exact .inl (.inl (by omega))
        · exact .inr (hvl b h)
        · cases h
      have hkn : KnownG (GW (w.heap.size + 1) w.heap.size vl ks.length (fun _ => .slice none 0 0)) (wr.alloc (.cells #[.string kq.name, .string kq.super, .slice am kq.meths.length cm] 126)) ks.length (.iface 126 (.agg #[.string kq.name, .string kq.super, .slice am kq.meths.length cm])) kq default (.slice none 0 0) :=
        .inl ⟨by omega, hfe, rfl, _, rfl, (hmg.only hal (fun _ h => h.elim)).mono (fun b _ hb => hGG b hb)⟩
      obtain ⟨T9, v9, vom9, ht⟩ := hkn.told
      obtain ⟨heq, ⟨nn, hask⟩, -, -, -, -⟩ := ht
      injection heq with heq1 heq2
      subst heq1
      subst heq2
      have CA := hid (pAdd hgw.obj hgw.names hgw.row hgw.base hgw.ne hask (by have := hfin.name; unfold maxLen; omega) (by omega))
      obtain ⟨x0, x1, x2⟩ : (wr.alloc (.cells #[.string kq.name, .string kq.super, .slice am kq.meths.length cm] 126)).cell? ⟨wr.heap.size, 0, none⟩ = some (.string kq.name) ∧ (wr.alloc (.cells #[.string kq.name, .string kq.super, .slice am kq.meths.length cm] 126)).cell? ⟨wr.heap.size, 1, none⟩ = some (.string kq.super) ∧ (wr.alloc (.cells #[.string kq.name, .string kq.super, .slice am kq.meths.length cm] 126)).cell? ⟨wr.heap.size, 2, none⟩ = some (.slice am kq.meths.length cm) := ⟨cell_blk hbt 0, cell_blk hbt 1, cell_blk hbt 2⟩
      have HAL := hid hal
      have HKN := hid hkn
      have HVL := hid hvl
      have HST := hid hstp
      have HKL := hid hkl
      clear hal hbt hgw hgo hGG hkn hask hvl hstp hkl hks hfin hfe hmg hmem hkq hq hbs hlj
      go_wp2_with (fail)
      refine CA.out.mono ?_
      rintro e w5 ⟨rfl, vl', hadd⟩
      have hgp := HG.out.push HAL.out hadd HKN.out (fun b hb => hb.elim id (fun h => by cases h)) (by rw [show kq.fields = [] from by rcases HKN.out with ⟨-, h, -⟩ | ⟨h, -⟩; exact h; have := HKL.out; omega]; exact FldS.nil _ _) (fun b hb => by cases hb)
      rw [setV_const, ← HST.out] at hgp
      have hsz := HSZ.out
      have hS : ∀ b, (b = (w.heap.size + 1) ∨ b = w.heap.size ∨ vl.ownBlock = some b) → b = (w.heap.size + 1) ∨ b = w.heap.size ∨ w2.heap.size ≤ b := fun b hb => hb.imp id (fun h => h.imp id (HVL.out b))
      have hbr5 := (HBW.out.only HAL.out (fun _ _ h => h)).only hadd.only (fun b hb hS' => by have := HRG.out b hb; have := hS b hS'; omega)
      have hbx5 : ∀ p ∈ l, p.1.fields = [] ∧ MemG (fun k => (k < W1.heap.size ∨ (Value.slice (some ⟨b9, o9, none⟩) 13 cr).ownBlock = some k) ∨ w2.heap.size ≤ k) w5 p.2 p.1.meths := fun p hp => ⟨(HBX.out p hp).1, ((HBX.out p hp).2.only HAL.out (fun _ h => h.elim)).only hadd.only (fun b hb => by
        rcases hS b hb with h | h | h
        · exact .inl (.inl (by omega))
        · exact .inl (.inl (by omega))
        · exact .inr h)⟩
      have hon5 := Only.trans (HON.out.trans HAL.out (fun _ h _ => h)) hadd.only (fun b hb hlt => by have := hS b hb; omega)
      have HG5 := hid hgp
      have HBR5 := hid hbr5
      have HBX5 := hid hbx5
      have HON5 := hid hon5
      clear hgp hbr5 hbx5 hon5 hS hsz hadd x0 x1 x2 r0 r1 r2
      go_wp2
      go_roundw
      case rel => exact ⟨j + 1, _, _, _, by go_num, by omega, HG5, HBR5, HBX5, HON5⟩
      case measure => simp [intOf]; omega
    · have hjz : ¬ (j : Int) < 13 := by omega
      have hk13 : builtK.take j = builtK := List.take_of_length_le (by rw [builtK_len]; omega)
      obtain ⟨j0, hj0⟩ : ∃ j0, j = j0 := ⟨_, rfl⟩
      have hg0 := HG.out
      rw [hk13] at hg0
      have HG0 := hid hg0
      have HAL0 : Hid (Along w wr builtK (fun _ => .slice none 0 0) cl cs) := hid ⟨HON.out, (fun i b _ h => by cases h), fun i h1 h2 => by rw [builtK_len] at h2; omega⟩
      clear hg0 hk13 HG HBW HBX HON C1 hj0
      go_wp2
      go_loopw [24] (fun iv wr => ∃ (j : Nat) (vl : Value) (ivs : List Value) (fv : Nat → Value) (cl : Nat → ClassV), iv = .int .i64 j ∧ j ≤ cs.length ∧ Hid (Gath w2.heap.size wr (w.heap.size + 1) w.heap.size vl (builtK ++ (listK cs 0).take j) ivs fv cl) ∧ Hid (Along w wr (builtK ++ (listK cs 0).take j) fv cl cs)) (fun iv _ => cs.length - (intOf iv).toNat)
      case atStart => exact ⟨0, vl, ivs, _, cl, rfl, Nat.zero_le _, by rw [List.take_zero, List.append_nil]; exact HG0, by rw [List.take_zero, List.append_nil]; exact HAL0⟩
      case round =>
        obtain ⟨j, vl, ivs, fv, cl, rfl, hj, HG, HAN⟩ := hrel
        by_cases hlt : j < cs.length
        · have hjz : (j : Int) < (cs.length : Int) := by omega
          have hj0 : (0 : Int) ≤ (j : Int) := by omega
          obtain ⟨b9, o9, rfl, hat⟩ := Sl.at HSL.out hlt
          have hcm := HCM.out j hlt
          obtain ⟨c, hcd⟩ : ∃ c, c = cs.getD j default := ⟨_, rfl⟩
          have hc0 := H0.out _ (getD_mem hlt)
          have hstp := take_stepK (l := listK cs 0) (j := j) (by rw [listK_len]; exact hlt)
          have hkl : (builtK ++ (listK cs 0).take j).length = 13 + j := by rw [List.length_append, builtK_len, take_lenK (by rw [listK_len]; omega)]
          rw [listK_at hlt, Nat.zero_add] at hstp
          rw [← hcd] at hat hcm hc0 hstp
          obtain ⟨ks, hks⟩ : ∃ ks, (builtK ++ (listK cs 0).take j) = ks := ⟨_, rfl⟩
          have hstp' : builtK ++ (listK cs 0).take (j + 1) = ks ++ [loadZ c j] := by rw [hstp, ← List.append_assoc, hks]
          rw [hks] at HG HAN hkl
          obtain ⟨al, cl9, rfl, -, -⟩ := slice_of_owns HG.out.row
          have hwr := HAN.out.only
          obtain ⟨c0, c1, c2, c3, c4⟩ := hat
          have hcm' : ClassM wr (f j).1 (f j).2.1 (f j).2.2 c := by obtain ⟨a, b, d, e, g⟩ := hcm; exact ⟨a.only hwr (fun _ _ h => h), b.only hwr, d.only hwr, e, g⟩
          generalize (f j).1 = vp at *
          generalize (f j).2.1 = vf at *
          generalize (f j).2.2 = vm at *
          obtain ⟨ap, cp, rfl, -⟩ := id hcm'.1
          obtain ⟨af, cf, rfl, -⟩ := id hcm'.2.1.1
          obtain ⟨gm, hgm, -, -⟩ := id hcm'.2.2.1
          obtain ⟨am, cm, rfl, -⟩ := id hgm
          clear hgm
          obtain ⟨r0, r1, r2, r3, r4⟩ := (⟨hwr.cell c0 (fun h => h), hwr.cell c1 (fun h => h), hwr.cell c2 (fun h => h), hwr.cell c3 (fun h => h), hwr.cell c4 (fun h => h)⟩ : _ ∧ _ ∧ _ ∧ _ ∧ _)
          have hfk := fine_load hc0 j
          obtain ⟨hfew, hf64, hm64⟩ := few_cls hc0
          have hal := (Only.refl (fun _ => False) wr).alloc (objCls c (.slice ap c.pool.length cp) (.slice af c.fields.length cf) (.slice am c.methods.length cm))
          have hbt := heap_alloc_new wr (objCls c (.slice ap c.pool.length cp) (.slice af c.fields.length cf) (.slice am c.methods.length cm))
          obtain ⟨x0, x1, x2, x3, x4⟩ := cells5T hbt
          have hob := hal.heap HG.out.obj (fun h => h)
          have y0 : (wr.alloc (objCls c (.slice ap c.pool.length cp) (.slice af c.fields.length cf) (.slice am c.methods.length cm))).cell? ⟨w.heap.size + 1, 0, none⟩ = some (.slice al ks.length cl9) := cell_blk hob 0
          have CN := hid (fun W (hW : Only (fun _ => False) wr W) => pNewListed c (.slice ap c.pool.length cp) (.slice af c.fields.length cf) (.slice am c.methods.length cm) ks.length W (by obtain ⟨a, b, d, e, g⟩ := hcm'; exact ⟨a.only hW (fun _ _ h => h), b.only hW, d.only hW, e, g⟩) hfew hf64 hm64)
          have hkz : ks.length ≤ 64 := by omega
          have HAL := hid hal
          have HFK := hid hfk
          have HKL := hid hkl
          have HST := hid hstp'
          have HCD := hid hcd
          clear hal hbt hob hfk hkl hstp hstp' hks hcm hcm' hc0 hfew hf64 hm64 hwr c0 c1 c2 c3 c4 hcd
          go_wp2
          have hSd : (wr.alloc (objCls c (.slice ap c.pool.length cp) (.slice af c.fields.length cf) (.slice am c.methods.length cm))).drew.cell? ⟨wr.heap.size, 0, none⟩ = some (.slice ap c.pool.length cp) ∧ (wr.alloc (objCls c (.slice ap c.pool.length cp) (.slice af c.fields.length cf) (.slice am c.methods.length cm))).drew.cell? ⟨wr.heap.size, 1, none⟩ = some (.int .i64 c.this) ∧ (wr.alloc (objCls c (.slice ap c.pool.length cp) (.slice af c.fields.length cf) (.slice am c.methods.length cm))).drew.cell? ⟨wr.heap.size, 2, none⟩ = some (.int .i64 c.super) ∧ (wr.alloc (objCls c (.slice ap c.pool.length cp) (.slice af c.fields.length cf) (.slice am c.methods.length cm))).drew.cell? ⟨wr.heap.size, 3, none⟩ = some (.slice af c.fields.length cf) ∧ (wr.alloc (objCls c (.slice ap c.pool.length cp) (.slice af c.fields.length cf) (.slice am c.methods.length cm))).drew.cell? ⟨wr.heap.size, 4, none⟩ = some (.slice am c.methods.length cm) ∧ (wr.alloc (objCls c (.slice ap c.pool.length cp) (.slice af c.fields.length cf) (.slice am c.methods.length cm))).drew.cell? ⟨w.heap.size + 1, 0, none⟩ = some (.slice al ks.length cl9) := ⟨x0, x1, x2, x3, x4, y0⟩
          refine wp_till 9 (fun wc => wc.cell? ⟨wr.heap.size, 0, none⟩ = some (.slice ap c.pool.length cp) ∧ wc.cell? ⟨wr.heap.size, 1, none⟩ = some (.int .i64 c.this) ∧ wc.cell? ⟨wr.heap.size, 2, none⟩ = some (.int .i64 c.super) ∧ wc.cell? ⟨wr.heap.size, 3, none⟩ = some (.slice af c.fields.length cf) ∧ wc.cell? ⟨wr.heap.size, 4, none⟩ = some (.slice am c.methods.length cm) ∧ wc.cell? ⟨w.heap.size + 1, 0, none⟩ = some (.slice al ks.length cl9)) (by kernel_rfl) ?_
          refine Till.take (i := 0) (v := ?_) (by simp only [List.getElem?_toArray, List.getElem?_cons_succ, List.getElem?_cons_zero]; rfl) (by kernel_rfl) (by kernel_rfl) (by kernel_rfl) (by kernel_rfl) (by kernel_rfl) (by exact fun _ _ _ h => h) (Or.inl ⟨by rfl, ?_⟩) (by assumption) ?_
          rotate_left 1
          · (intro w h; (try dsimp only at h); go_simp; try with_reducible rfl)
          try simp only [Act.put, sIB, sC0, sCS]
          refine Till.via [7, 6, 5, 4, 3] (i := 2) (v := ?_) (by simp only [List.getElem?_toArray, List.getElem?_cons_succ, List.getElem?_cons_zero]; rfl) (by kernel_rfl) (by kernel_rfl) (by kernel_rfl) (by kernel_rfl) (by kernel_rfl) (by kernel_rfl) (by exact fun _ _ _ h => h) (Or.inl ⟨by rfl, ?_⟩) (by assumption) ?_
          rotate_left 1
          · (intro w h; (try dsimp only at h); go_simp; try with_reducible rfl)
          try simp only [Act.put, sIB, sC0, sCS]
          refine Till.via [7, 6, 5, 4] (i := 3) (v := ?_) (by simp only [List.getElem?_toArray, List.getElem?_cons_succ, List.getElem?_cons_zero]; rfl) (by kernel_rfl) (by kernel_rfl) (by kernel_rfl) (by kernel_rfl) (by kernel_rfl) (by kernel_rfl) (by exact fun _ _ _ h => h) (Or.inl ⟨by rfl, ?_⟩) (by assumption) ?_
          rotate_left 1
          · (intro w h; (try dsimp only at h); go_simp; try with_reducible rfl)
          try simp only [Act.put, sIB, sC0, sCS]
          refine Till.via [7, 6, 5] (i := 4) (v := ?_) (by simp only [List.getElem?_toArray, List.getElem?_cons_succ, List.getElem?_cons_zero]; rfl) (by kernel_rfl) (by kernel_rfl) (by kernel_rfl) (by kernel_rfl) (by kernel_rfl) (by kernel_rfl) (by exact fun _ _ _ h => h) (Or.inl ⟨by rfl, ?_⟩) (by assumption) ?_
          rotate_left 1
          · (intro w h; (try dsimp only at h); go_simp; try with_reducible rfl)
          try simp only [Act.put, sIB, sC0, sCS]
          refine Till.via [7, 6] (i := 5) (v := ?_) (by simp only [List.getElem?_toArray, List.getElem?_cons_succ, List.getElem?_cons_zero]; rfl) (by kernel_rfl) (by kernel_rfl) (by kernel_rfl) (by kernel_rfl) (by kernel_rfl) (by kernel_rfl) (by exact fun _ _ _ h => h) (Or.inl ⟨by rfl, ?_⟩) (by assumption) ?_
          rotate_left 1
          · (intro w h; (try dsimp only at h); go_simp; try with_reducible rfl)
          try simp only [Act.put, sIB, sC0, sCS]
          refine Till.via [7] (i := 6) (v := ?_) (by simp only [List.getElem?_toArray, List.getElem?_cons_succ, List.getElem?_cons_zero]; rfl) (by kernel_rfl) (by kernel_rfl) (by kernel_rfl) (by kernel_rfl) (by kernel_rfl) (by kernel_rfl) (by exact fun _ _ _ h => h) (Or.inl ⟨by rfl, ?_⟩) (by assumption) ?_
          rotate_left 1
          · (intro w h; (try dsimp only at h); go_simp; try with_reducible rfl)
          try simp only [Act.put, sIB, sC0, sCS]
          refine Till.via [7] (i := 1) (v := ?_) (by simp only [List.getElem?_toArray, List.getElem?_cons_succ, List.getElem?_cons_zero]; rfl) (by kernel_rfl) (by kernel_rfl) (by kernel_rfl) (by kernel_rfl) (by kernel_rfl) (by kernel_rfl) (by exact fun _ _ _ h => h) (Or.inl ⟨by rfl, ?_⟩) (by assumption) ?_
          rotate_left 1
          · (intro w h; (try dsimp only at h); go_simp; try with_reducible rfl)
          try simp only [Act.put, sIB, sC0, sCS]
          refine Till.ts 7 (h := fun K hK => ?_)
          go_simp
          (refine (CN.out _ HAL.out.drew).mono ?_; rintro e5 w5 ⟨lb, A, B, D, vof, vom, rfl, hlt5⟩; have HC5 := hid ((Only.refl (fun _ => False) _).drew.trans hlt5.only (fun _ h _ => h)); have hSd5 : w5.cell? ⟨wr.heap.size, 0, none⟩ = some (.slice ap c.pool.length cp) ∧ w5.cell? ⟨wr.heap.size, 1, none⟩ = some (.int .i64 c.this) ∧ w5.cell? ⟨wr.heap.size, 2, none⟩ = some (.int .i64 c.super) ∧ w5.cell? ⟨wr.heap.size, 3, none⟩ = some (.slice af c.fields.length cf) ∧ w5.cell? ⟨wr.heap.size, 4, none⟩ = some (.slice am c.methods.length cm) ∧ w5.cell? ⟨w.heap.size + 1, 0, none⟩ = some (.slice al ks.length cl9) := ⟨HC5.out.cell x0 (fun h => h), HC5.out.cell x1 (fun h => h), HC5.out.cell x2 (fun h => h), HC5.out.cell x3 (fun h => h), HC5.out.cell x4 (fun h => h), HC5.out.cell y0 (fun h => h)⟩; have HLT := hid hlt5; have HW5 := hid (HAL.out.trans HC5.out (fun _ h _ => h)); clear hlt5)
          go_wp2_with fail
          refine hK.out _ _ ?_ ?_
          · exact fun _ => hSd5
          clear hK K
          try simp only [Act.put, sIB, sC0, sCS]
          refine Till.take (i := 8) (v := ?_) (by simp only [List.getElem?_toArray, List.getElem?_cons_succ, List.getElem?_cons_zero]; rfl) (by kernel_rfl) (by kernel_rfl) (by kernel_rfl) (by kernel_rfl) (by kernel_rfl) (by exact fun _ _ _ h => h) (Or.inl ⟨by rfl, ?_⟩) (by assumption) ?_
          rotate_left 1
          · (intro w h; (try dsimp only at h); go_simp; try with_reducible rfl)
          try simp only [Act.put, sIB, sC0, sCS]
          refine Till.ts 9 (h := fun K hK => ?_)
          go_simp
          (have hwd : wr.heap.size ≤ (wr.alloc (objCls c (.slice ap c.pool.length cp) (.slice af c.fields.length cf) (.slice am c.methods.length cm))).drew.heap.size := HAL.out.drew.size; have hG5 := HG.out.only HW5.out; have hkn : KnownG (fun b => b < (wr.alloc (objCls c (.slice ap c.pool.length cp) (.slice af c.fields.length cf) (.slice am c.methods.length cm))).drew.heap.size ∨ vof.ownBlock = some b) w5 ks.length (.iface 128 (.pointer (some ⟨lb, 0, none⟩))) (loadZ c j) c vof := .inr ⟨by have := HKL.out; omega, by rw [HKL.out, show 13 + j - 13 = j by omega], lb, A, B, D, vom, rfl, (fun hb => hb.elim (fun h => by have := HLT.out.base; omega) (fun h => (HLT.out.own lb h).2.2 rfl)), by have h := HLT.out.obj; rw [HKL.out]; rw [HKL.out] at h; exact h, HLT.out.cls, HLT.out.meths⟩; obtain ⟨T9, v9, vom9, ht⟩ := hkn.told; obtain ⟨heq, ⟨nn, hask⟩, -, -, -, -⟩ := ht; injection heq with heq1 heq2; subst heq1; subst heq2; have CA := hid (pAdd hG5.obj hG5.names hG5.row hG5.base hG5.ne hask (by have := HFK.out.name; unfold maxLen; omega) (by have := HKL.out; omega)); have HKN := hid hkn; clear hkn hG5 hask; refine CA.out.mono ?_; rintro e6 w6 ⟨rfl, vl', hadd⟩; have HADD := hid hadd; clear hadd)
          go_wp2_with fail
          refine hK.out _ _ ?_ ?_
          · exact fun h => by cases h
          clear hK K
          try simp only [Act.put, sIB, sC0, sCS]
          refine Till.done (by kernel_rfl) ?_ _
          clear hSd hSd5 x0 x1 x2 x3 x4 y0 r0 r1 r2 r3 r4
          have hwd : wr.heap.size ≤ (wr.alloc (objCls c (.slice ap c.pool.length cp) (.slice af c.fields.length cf) (.slice am c.methods.length cm))).drew.heap.size := HAL.out.drew.size
          have hgp := HG.out.push HW5.out HADD.out HKN.out (fun b hb => hb.imp (fun h => Nat.lt_of_lt_of_le (HG.out.lt h) hwd) id) HLT.out.flds (fun b hb => ⟨Nat.le_trans hwd (HLT.out.own b hb).1, (HLT.out.own b hb).2.1⟩)
          have hlow : ∀ b, (b = w.heap.size + 1 ∨ b = w.heap.size ∨ (Value.slice al ks.length cl9).ownBlock = some b) → w.heap.size ≤ b := fun b hb => by
            have h2 := HSZ.out
            rcases hb with h | h | h
            · omega
            · omega
            · have := (World.ownsRow.lt HG.out.row b h).1
              omega
          have han : Along w w6 (ks ++ [loadZ c j]) (setV fv ks.length vof) (setV cl ks.length c) cs := by
            have h1 := HAN.out.only.size
            refine ⟨Only.trans (HAN.out.only.trans HW5.out (fun _ h _ => h)) HADD.out.only (fun b hb hl => by have := hlow b hb; omega), fun i b hi hb => ?_, fun i h13 hi => ?_⟩
            · rw [List.length_append] at hi
              by_cases hin : i = ks.length
              · subst hin
                rw [setV_at] at hb
                have := (HLT.out.own b hb).1
                omega
              · rw [setV_lt _ _ (by simp at hi; omega)] at hb
                exact HAN.out.own i b (by simp at hi; omega) hb
            · rw [List.length_append] at hi
              by_cases hin : i = ks.length
              · subst hin
                rw [setV_at, HCD.out, HKL.out]
                congr 1
                omega
              · rw [setV_lt _ _ (by simp at hi; omega)]
                exact HAN.out.cls i h13 (by simp at hi; omega)
          have HG6 := hid hgp
          have HAN6 := hid han
          clear hgp han hlow hwd
          go_wp2
          go_roundw
          case rel => exact ⟨j + 1, _, _, _, _, by go_num, by omega, by rw [HST.out]; exact HG6, by rw [HST.out]; exact HAN6⟩
          case measure => simp [intOf]; omega
        · have hje : cs.length = j := by omega
          subst hje
          have htk : (listK cs 0).take cs.length = listK cs 0 := List.take_of_length_le (Nat.le_of_eq (listK_len _ _))
          have hgf := HG.out
          have haf := HAN.out
          rw [htk] at hgf haf
          have HGF := hid hgf.prog
          have HAF := hid haf
          clear hgf haf htk
          go_wp2
          go_ret
          exact ⟨_, _, _, rfl, by omega, HGF.out, HAF.out⟩
end Go.Proofs.YtinbelghhfodiaaGreatDoor
namespace Go.Proofs.YtinbelghhfodiaaGreatDoor
set_option maxHeartbeats 16000000
open Lib (hid)
open Go.RowKit Go.Extern.Stop Go.Stop Go.Extern
set_option linter.unusedVariables false
set_option linter.unusedSimpArgs false
theorem asFault (p k : Int) (t : Addr) (old : Value) (w : World) (hg : ErrV w) (ht0 : w.cell? t = some old) (hf0 : w.frozen? t = false) :
    Calls Tryz.prog 152 #[.iface 223 (.agg #[.int .i64 p, .int .i64 k]), .iface 220 (.pointer (some t))] w fun ev w' => ev = .returned (.bool true) ∧
      w' = (((((w.alloc (.cells #[.pointer (some t)] 220)).alloc (.cells #[.pointer (some ⟨4, 220, none⟩), .pointer (some ⟨w.heap.size, 0, none⟩), .int .u64 150] 236)).alloc (.cells #[.pointer (some ⟨4, 220, none⟩), .pointer (some ⟨w.heap.size, 0, none⟩), .int .u64 150] 236)).alloc (.cells #[.int .i64 p, .int .i64 k] 223)).alloc (.cells #[.int .i64 k] 34)).setCell t (.int .i64 k) := by
  have h6 := @run_callFunc_extern Tryz.prog 169 _ (fun args => ReflectliteValue.unpack (args.getD 0 (.tuple #[]))) Tryz.func169 (by kernel_rfl) (by kernel_rfl) (by kernel_rfl) (by kernel_rfl)
  have h7 := @run_callFunc_extern Tryz.prog 170 _ (ReflectliteValue.methodAny (ReflectliteValue.valueError "reflectlite.Value.Type" 0) (fun t _ _ _ => ReflectliteType.toType t)) Tryz.func170 (by kernel_rfl) (by kernel_rfl) (by kernel_rfl) (by kernel_rfl)
  have h8 := @run_callFunc_extern Tryz.prog 171 _ (ReflectliteValue.method (ReflectliteValue.valueError "reflectlite.Value.IsNil" 0) ReflectliteValue.isNil) Tryz.func171 (by kernel_rfl) (by kernel_rfl) (by kernel_rfl) (by kernel_rfl)
  have h27 := @run_callFunc_extern Tryz.prog 218 _ (ReflectliteType.abiMethod fun t => do pure (.int .u8 (← Rtype.kind t))) Tryz.func218 (by kernel_rfl) (by kernel_rfl) (by kernel_rfl) (by kernel_rfl)
  have h37 := @run_callFunc_extern Tryz.prog 237 _ (ReflectliteType.method ReflectliteType.elem) Tryz.func237 (by kernel_rfl) (by kernel_rfl) (by kernel_rfl) (by kernel_rfl)
  have h38 := @run_callFunc_extern Tryz.prog 238 _ (ReflectliteType.relation "Implements" ReflectliteType.implements_) Tryz.func238 (by kernel_rfl) (by kernel_rfl) (by kernel_rfl) (by kernel_rfl)
  have h10 := @run_callFunc_extern Tryz.prog 180 _ ReflectliteType.typeOf Tryz.func180 (by kernel_rfl) (by kernel_rfl) (by kernel_rfl) (by kernel_rfl)
  have h35 := @run_callFunc_extern Tryz.prog 235 _ (ReflectliteType.relation "AssignableTo" ReflectliteType.assignableTo) Tryz.func235 (by kernel_rfl) (by kernel_rfl) (by kernel_rfl) (by kernel_rfl)
  have h11 := @run_callFunc_extern Tryz.prog 181 _ (ReflectliteValue.method (ReflectliteValue.valueError "reflectlite.Value.Elem" 0) ReflectliteValue.elem) Tryz.func181 (by kernel_rfl) (by kernel_rfl) (by kernel_rfl) (by kernel_rfl)
  have h12 := @run_callFunc_extern Tryz.prog 182 _ ReflectliteValue.set Tryz.func182 (by kernel_rfl) (by kernel_rfl) (by kernel_rfl) (by kernel_rfl)
  have tO := asTypeOfE
  have tF := asTypeOfF
  have mA := asMethodAssignable
  have aE := asAssignE
  have aF := asAssignF
  have vE := asValE
  have f6 := asValP
  have f7 := asTypeP
  have mK := asMethodKind
  have mE := asMethodElem
  have mI := asMethodImplements
  have mU := asMethodUnwrap
  have kP := asKindP
  have kE := asKindE
  have eP := asElemP
  have iE := asImplements
  have nA := asNoAsF
  have uF := asHasUnwrapF
  have n8 := asIsNilP ⟨w.heap.size, 0, none⟩ t ((w.alloc (.cells #[.pointer (some t)] 220)).alloc (.cells #[.pointer (some ⟨4, 220, none⟩), .pointer (some ⟨w.heap.size, 0, none⟩), .int .u64 150] 236)) (by simp)
  have hg2 : ((w.alloc (.cells #[.pointer (some t)] 220)).alloc (.cells #[.pointer (some ⟨4, 220, none⟩), .pointer (some ⟨w.heap.size, 0, none⟩), .int .u64 150] 236)).cell? ⟨0, 0, none⟩ = some (.iface 254 (.agg #[.pointer (some ⟨4, 199, none⟩)])) :=
    ErrV.only hg (((Only.refl (fun _ => False) w).alloc _).alloc _) (fun h => h)
  have htl : t.block < w.heap.size := World.block_lt_of_cell? w _ ht0
  have el := asElemV ⟨w.heap.size, 0, none⟩ t ((((w.alloc (.cells #[.pointer (some t)] 220)).alloc (.cells #[.pointer (some ⟨4, 220, none⟩), .pointer (some ⟨w.heap.size, 0, none⟩), .int .u64 150] 236)).alloc (.cells #[.pointer (some ⟨4, 220, none⟩), .pointer (some ⟨w.heap.size, 0, none⟩), .int .u64 150] 236)).alloc (.cells #[.int .i64 p, .int .i64 k] 223))
    (((((Only.refl (fun _ => False) _).alloc _).alloc _).alloc _).cell (cell_blk (heap_alloc_new w (.cells #[.pointer (some t)] 220)) 0) (fun h => h))
  have hoA : Only (fun _ => False) w (((((w.alloc (.cells #[.pointer (some t)] 220)).alloc (.cells #[.pointer (some ⟨4, 220, none⟩), .pointer (some ⟨w.heap.size, 0, none⟩), .int .u64 150] 236)).alloc (.cells #[.pointer (some ⟨4, 220, none⟩), .pointer (some ⟨w.heap.size, 0, none⟩), .int .u64 150] 236)).alloc (.cells #[.int .i64 p, .int .i64 k] 223)).alloc (.cells #[.int .i64 k] 34)) :=
    (((((Only.refl _ w).alloc _).alloc _).alloc _).alloc _).alloc _
  have st := asSet t ⟨w.heap.size + 1 + 1 + 1 + 1, 0, none⟩ k old _ (by rw [World.cell?_alloc_at _ _ _ _ (by simp)]; rfl) (hoA.cell ht0 (fun h => h)) (by
    rw [World.frozen?_alloc_old _ _ t (by simp; omega), World.frozen?_alloc_old _ _ t (by simp; omega), World.frozen?_alloc_old _ _ t (by simp; omega), World.frozen?_alloc_old _ _ t (by simp; omega), World.frozen?_alloc_old _ _ t (Nat.ne_of_lt htl)]; exact hf0)
  clear hoA
  go_enter Tryz.func152, Tryz.ntmps152
  go_wp2
  refine wp_loop_rounds 2 ?_
  rw [rounds_succ]
  go_wp2
  rw [rounds_succ]
  go_wp2
  go_ret
  exact ⟨rfl, rfl⟩
theorem whichFault (p k : Int) (w : World) (hg : ErrV w) :
    Calls Tryz.prog 125 #[.iface 223 (.agg #[.int .i64 p, .int .i64 k])] w fun e w' => e = .returned (.int .i64 k) ∧ Only (fun _ => False) w w' := by
  have hg1 := hg.only ((Only.refl (fun _ => False) w).alloc (.cells #[.int .i64 0] 34)) (fun h => h)
  have cA := asFault p k ⟨w.heap.size, 0, none⟩ (.int .i64 0) (w.alloc (.cells #[.int .i64 0] 34)) hg1 (by simp) (by simp)
  go_enter Tryz.func125, Tryz.ntmps125
  go_wp2_with (fail)
  refine cA.mono ?_
  rintro e w1 ⟨rfl, rfl⟩
  clear cA
  go_wp2
  go_ret
  refine ⟨rfl, ?_⟩
  repeat (first | exact Only.refl _ _ | refine Only.alloc ?_ _ | refine Only.setCell ?_ (fun hl => absurd hl (by simp)) _)
end Go.Proofs.YtinbelghhfodiaaGreatDoor
namespace Go.Proofs.YtinbelghhfodiaaGreatDoor
set_option maxHeartbeats 16000000
open Lib (hid)
open Go.RowKit Go.Shelf
set_option linter.unusedVariables false
set_option linter.unusedSimpArgs false
def ErrOf (k : Int) (v : Value) : Prop := (k = 0 ∧ v = .nilIface) ∨ (k ≠ 0 ∧ ∃ p : Int, v = .iface 223 (.agg #[.int .i64 p, .int .i64 k]))
theorem ErrOf.some {k p : Int} (h : k ≠ 0) : ErrOf k (.iface 223 (.agg #[.int .i64 p, .int .i64 k])) := .inr ⟨h, p, rfl⟩
theorem ErrOf.none : ErrOf 0 .nilIface := .inl ⟨rfl, rfl⟩
theorem whichOf (k : Int) (v : Value) (w : World) (h : ErrOf k v) (hg : ErrV w) :
    Calls Tryz.prog 125 #[v] w fun e w' => e = .returned (.int .i64 k) ∧ Only (fun _ => False) w w' := by
  rcases h with ⟨rfl, rfl⟩ | ⟨_, p, rfl⟩
  · exact whichNil w
  · exact whichFault p k w hg
theorem countLong (n : Int) (w : World) (h : 1024 < n) :
    Calls Tryz.prog 153 #[.int .i64 n] w fun e w' => e = .returned (.iface 223 (.agg #[.int .i64 1024, .int .i64 2])) ∧ w = w' := by
  go_enter Tryz.func153, Tryz.ntmps153
  go_wp2
  go_ret
  exact ⟨rfl, rfl⟩
theorem countZero (w : World) :
    Calls Tryz.prog 153 #[.int .i64 0] w fun e w' => e = .returned (.iface 223 (.agg #[.int .i64 0, .int .i64 40])) ∧ w = w' := by
  go_enter Tryz.func153, Tryz.ntmps153
  go_wp2
  go_ret
  exact ⟨rfl, rfl⟩
theorem countOk (n : Int) (w : World) (h1 : n ≤ 1024) (h0 : 1 ≤ n) :
    Calls Tryz.prog 153 #[.int .i64 n] w fun e w' => e = .returned .nilIface ∧ w = w' := by
  have hb : (n == 0) = false := by simp only [beq_eq_false_iff_ne]; omega
  go_enter Tryz.func153, Tryz.ntmps153
  go_wp2
  go_ret
  exact ⟨rfl, rfl⟩
def LookTo (w : World) (k : Int) (e : Ending) (w' : World) : Prop := ∃ v, e = .returned v ∧ ErrOf k v ∧ Only (fun _ => False) w w'
theorem progPool (v : Value) (cs : List ConstV) (w : World) (hp : Pool w v cs) (hT : Tabs w) :
    Calls Tryz.prog 126 #[v] w (LookTo w (checkZ cs)) := by
  obtain ⟨ao, cap, rfl, h1, h2, h3, h4, h5⟩ := id hp
  have Hp := hid hp
  have HT := hid hT
  clear h3 h4 h5 hp hT
  by_cases hl : 1024 < cs.length
  · have hc : checkZ cs = 2 := by unfold checkZ; rw [if_pos hl]
    rw [hc]
    clear hc
    go_enter Tryz.func126, Tryz.ntmps126
    go_wp2_with (go_at_call 153; refine (countLong _ _ (by omega)).mono ?_; rintro e w' ⟨rfl, rfl⟩)
    go_ret
    exact ⟨_, rfl, ErrOf.some (by decide), Only.refl _ _⟩
  by_cases hz : cs = []
  · have hc : checkZ cs = 40 := by unfold checkZ; rw [if_neg hl, if_pos (.inl hz)]
    have h0 : cs.length = 0 := by rw [hz]; rfl
    rw [hc]
    clear hz hc
    go_enter Tryz.func126, Tryz.ntmps126
    go_wp2_with (go_at_call 153; refine (countZero _).mono ?_; rintro e w' ⟨rfl, rfl⟩)
    go_ret
    exact ⟨_, rfl, ErrOf.some (by decide), Only.refl _ _⟩
  have h0 : 0 < cs.length := List.length_pos_iff.2 hz
  obtain ⟨b, o, rfl, hc⟩ := Pool.at Hp.out h0
  obtain ⟨g0, g1, g2, g3, g4⟩ := hc
  simp only [Nat.zero_mul, Nat.add_zero] at g0 g1 g2 g3 g4
  have h0z : (0 : Int) < (cs.length : Int) := by omega
  obtain ⟨c, hc⟩ : ∃ c, cs.getD 0 default = c := ⟨_, rfl⟩
  rw [hc] at g0 g1 g2 g3 g4
  obtain ⟨t, x, n, a, bb⟩ := c
  simp only at g0 g1 g2 g3 g4
  have Hc0 := hid hc
  have Hz := hid hz
  have cC := fun w => countOk (cs.length : Int) w (by omega) (by omega)
  clear hc hz
  by_cases hzero : t = 0 ∧ x.toList = [] ∧ n = 0 ∧ a = 0 ∧ bb = 0
  · obtain ⟨rfl, hx, rfl, rfl, rfl⟩ := hzero
    have hx' : x = ⟨#[]⟩ := by rw [empty_text]; exact hx
    subst hx'
    have hR : checkZ cs = errs cs (cs.drop 1) := by
      unfold checkZ
      rw [if_neg hl, if_neg (fun h => h.elim Hz.out (fun h => h (Hc0.out)))]
    obtain ⟨R, hRR⟩ : ∃ R, errs cs (cs.drop 1) = R := ⟨_, rfl⟩
    rw [hRR] at hR
    rw [hR]
    have HRR := hid hRR
    clear hR hRR hx hl
    go_enter Tryz.func126, Tryz.ntmps126
    go_wp2_with (go_at_call 153; refine (cC _).mono ?_; rintro e w' ⟨rfl, rfl⟩)
    go_loopw [4] (fun i wr => ∃ j : Nat, 1 ≤ j ∧ j ≤ cs.length ∧ i = .int .i64 j ∧ errs cs (cs.drop j) = R ∧ Only (fun _ => False) w wr) (fun i _ => cs.length - (intOf i).toNat)
    case atStart => exact ⟨1, Nat.le_refl _, h0, rfl, HRR.out, Only.refl _ _⟩
    case round =>
      obtain ⟨j, hj1, hj, rfl, he, hon⟩ := hrel
      clear g0 g1 g2 g3 g4 cC
      by_cases hlt : j < cs.length
      · have hstep : errs cs (cs.drop j) = errs cs (cs.getD j default :: cs.drop (j + 1)) := by
          rw [List.drop_eq_getElem_cons hlt]
          simp [List.getD, hlt]
        have hjz : (j : Int) < (cs.length : Int) := by omega
        have hpw := (Hp.out).only hon (fun _ _ h => h)
        have htw := (HT.out).only hon (fun h => h) (fun h => h)
        have hr := hpw.range hlt
        obtain ⟨b', o', e2, hc⟩ := Pool.at hpw hlt
        injection e2 with e2
        injection e2 with e2 e3
        subst e2 e3
        obtain ⟨k0, k1, k2, k3, k4⟩ := hc
        rw [hstep] at he
        have He := hid he
        have cK := progConst _ cs (cs.getD j default) wr hpw hr htw
        have hr0 := hr.r0
        clear hstep he hpw htw hr
        generalize cs.getD j default = c at *
        obtain ⟨t, x, n, a, bb⟩ := c
        simp only at *
        go_wp2_with (fail)
        refine cK.mono ?_
        rintro e w2 ⟨rfl, ho2⟩
        have hon2 := hon.trans ho2 (fun _ h => h.elim)
        clear ho2 hon cK
        obtain ⟨q, hq⟩ : ∃ q, oneZ cs ⟨t, x, n, a, bb⟩ = q := ⟨_, rfl⟩
        rw [hq]
        have he2 := He.out
        unfold errs at he2
        rw [hq] at he2
        clear hq
        by_cases hq0 : q = 0
        · subst hq0
          rw [if_neg (by simp)] at he2
          have He2 := hid he2
          clear he2
          go_wp2
          go_roundw
          case rel => exact ⟨j + 1, by omega, by omega, by go_num, He2.out, hon2⟩
          case measure => simp [intOf]; omega
        · rw [if_pos hq0] at he2
          have He2 := hid he2
          have hqb : (q == 0) = false := by simpa using hq0
          have hqc : (q != 0) = true := by simpa using hq0
          clear he2
          go_wp2
          go_ret
          exact ⟨_, rfl, by rw [← He2.out]; exact ErrOf.some hq0, hon2⟩
      · have hjn : j = cs.length := by omega
        subst hjn
        rw [List.drop_length] at he
        have he2 : (0 : Int) = R := he
        have He := hid he2
        clear he he2
        go_wp2
        go_ret
        exact ⟨_, rfl, by rw [← He.out]; exact ErrOf.none, hon⟩
  · have hR : checkZ cs = 40 := by
      unfold checkZ
      rw [if_neg hl, if_pos (.inr (fun h => hzero (by rw [Hc0.out] at h; injection h with e1 e2 e3 e4 e5; exact ⟨e1, by rw [← empty_text]; exact e2, e3, e4, e5⟩)))]
    rw [hR]
    clear hR
    go_enter Tryz.func126, Tryz.ntmps126
    go_wp2_with (go_at_call 153; refine (cC _).mono ?_; rintro e w' ⟨rfl, rfl⟩)
    all_goals first | go_ret | skip
    all_goals first | exact ⟨_, rfl, ErrOf.some (by decide), Only.refl _ _⟩ | (exfalso; apply hzero; simp_all; done)
theorem progCheck (v : Value) (cs : List ConstV) (w : World) (hp : Pool w v cs) (hT : Tabs w) (hg : ErrV w) :
    Calls Tryz.prog 94 #[v] w fun e w' => e = .returned (.int .i64 (checkZ cs)) ∧ Only (fun _ => False) w w' := by
  have cP := progPool v cs w hp hT
  obtain ⟨ao, cap, rfl, _, _, _, _, _⟩ := id hp
  have HG := hid hg
  clear hp hT hg
  generalize checkZ cs = k at *
  go_enter Tryz.func94, Tryz.ntmps94
  go_wp2_with (fail)
  refine cP.mono ?_
  rintro e w1 ⟨ve, rfl, hve, ho1⟩
  have cW := whichOf k ve w1 hve (HG.out.only ho1 (fun h => h))
  have Ho1 := hid ho1
  clear hve ho1 cP
  go_wp2_with (fail)
  refine cW.mono ?_
  rintro e w2 ⟨rfl, ho2⟩
  clear cW
  go_wp2
  go_ret
  exact ⟨rfl, Ho1.out.trans ho2 (fun _ h => h.elim)⟩
end Go.Proofs.YtinbelghhfodiaaGreatDoor
namespace Go.Proofs.YtinbelghhfodiaaGreatDoor
set_option maxHeartbeats 16000000
open Lib (hid)
open Go.RowKit
set_option linter.unusedVariables false
set_option linter.unusedSimpArgs false
set_option maxRecDepth 100000 in
theorem checkMethodP (v : Value) (cs : List ConstV) (m : MethodV) (vc vt vm : Value) (w : World) (hp : Pool w v cs) (hbare : Bare cs) (hi : Inside w m vc vt vm) :
    Calls Tryz.prog 99 #[v, .agg #[.int .i64 m.flags, .int .i64 m.name, .int .i64 m.desc, .int .i64 m.stack, .int .i64 m.locals, vc, vt, vm]] w (GoIf (MethodP cs m) 50 w) := by
  obtain ⟨ao, cap, rfl, _, _, _, _, _⟩ := id hp
  obtain ⟨hc, ht, hm⟩ := hi
  obtain ⟨ac, cc, rfl, hc1, hc2, _, _, _⟩ := id hc
  obtain ⟨am, cm, rfl, hm1, hm2, _, _, _⟩ := id hm
  obtain ⟨at_, ct, rfl, ht1, ht2⟩ := ht.1.slice
  have cM := fun fl nm ds w' (ho : Only (fun _ => False) w w') => checkMemberP _ cs fl nm ds w' (hp.only ho (fun _ _ h => h))
  have cT := fun t n hn w' (ho : Only (fun _ => False) w w') => checkTrapP _ cs t n hn w' (hp.only ho (fun _ _ h => h))
  have cP := fun s w' (ho : Only (fun _ => False) w w') => progPlace _ cs s w' (hp.only ho (fun _ _ h => h)) hbare
  have HT := hid ht
  have CM := hid cM
  have CT := hid cT
  have CP := hid cP
  have I1 := hid (idxZ_pos cs codeT)
  have I2 := hid (idxZ_pos cs mapsT)
  obtain ⟨fl, nm, ds, st, lo, code, traps, maps⟩ := m
  simp only at *
  unfold maxLen at hc2 hm2
  have hQ : MethodP cs ⟨fl, nm, ds, st, lo, code, traps, maps⟩ = (HeadP cs ⟨fl, nm, ds, st, lo, code, traps, maps⟩ ∧ BodyP cs ⟨fl, nm, ds, st, lo, code, traps, maps⟩ ∧ ∀ t ∈ traps, TrapP cs code.length t) := rfl
  have HQ := hid hQ
  have hbx := heap_alloc_new w (.cells #[.int .i64 fl, .int .i64 nm, .int .i64 ds, .int .i64 st, .int .i64 lo, .slice ac code.length cc, .slice at_ traps.length ct, .slice am maps.length cm] 63)
  have HBX := hid hbx
  have HON := hid ((Only.refl (fun _ => False) w).alloc (.cells #[.int .i64 fl, .int .i64 nm, .int .i64 ds, .int .i64 st, .int .i64 lo, .slice ac code.length cc, .slice at_ traps.length ct, .slice am maps.length cm] 63))
  clear hQ hp hc hm ht cM cT cP hbx hbare
  go_enter Tryz.func99, Tryz.ntmps99
  go_wp2_with (fail)
  refine (CM.out _ _ _ _ HON.out).mono ?_
  rintro e w1 ⟨⟨hmem, rfl⟩ | ⟨hmem, rfl⟩, ho1⟩
  rotate_left
  · refine ⟨rfl, GoIf.no (fun h => hmem ?_) (HON.out.trans ho1 (fun _ h => h.elim))⟩
    rw [HQ.out] at h
    exact ⟨h.1.1, h.1.2.1, h.1.2.2.1⟩
  have hb1 := ho1.heap HBX.out (fun h => h)
  have q3 := cell_blk hb1 3
  have q4 := cell_blk hb1 4
  have q5 := cell_blk hb1 5
  have q6 := cell_blk hb1 6
  simp at q3 q4 q5 q6
  have HB1 := hid hb1
  have HMEM := hid hmem
  have HON1 := hid (HON.out.trans ho1 (fun _ h => h.elim))
  clear ho1 hb1 hmem
  by_cases hgood : (0 ≤ st ∧ st ≤ 64) ∧ (0 ≤ lo ∧ lo ≤ 64) ∧ 1 ≤ (code.length : Int) ∧ (code.length : Int) ≤ 4096
  rotate_left
  · have HG := hid hgood
    clear hgood
    go_wp2_with (first | (go_at_call 96; refine (mustB _ _).mono ?_; rintro e w' ⟨⟨h, rfl⟩ | ⟨h, rfl⟩, rfl⟩) | (go_at_call 129; refine (isSlotsP _ _).mono ?_; rintro e w' ⟨rfl, rfl⟩))
    all_goals first
      | (refine ⟨rfl, GoIf.no (fun hq => ?_) HON1.out⟩
         rw [HQ.out] at hq
         obtain ⟨⟨_, _, _, h3, h4, h5, h6⟩, ⟨h7, h8, _⟩, _⟩ := hq
         exact HG.out ⟨⟨h3, h4⟩, ⟨h5, h6⟩, by simp only at h7; omega, by simp only at h8; omega⟩)
      | (exfalso
         apply HG.out
         clear HG HQ HON1 HON HMEM CM CT CP I1 I2 HB1 HBX HT
         try simp only [Bool.and_eq_true, decide_eq_true_eq] at *
         first
           | (simp_all; done)
           | (simp_all; omega)
           | omega)
  obtain ⟨⟨s1, s2⟩, ⟨l1, l2⟩, n1, n2⟩ := hgood
  have cS1 := isSlotsP st w1
  have cS2 := isSlotsP lo w1
  rw [decide_eq_true s1, decide_eq_true s2] at cS1
  rw [decide_eq_true l1, decide_eq_true l2] at cS2
  have CS1 := hid cS1
  have CS2 := hid cS2
  have HS := hid (And.intro s1 s2)
  have HL := hid (And.intro l1 l2)
  clear s1 s2 l1 l2 cS1 cS2
  go_wp2_with (first | (go_at_call 96; refine (mustT _).mono ?_; rintro e w' ⟨rfl, rfl⟩) | (go_at_call 129; first | (refine CS1.out.mono ?_; rintro e w' ⟨rfl, rfl⟩) | (refine CS2.out.mono ?_; rintro e w' ⟨rfl, rfl⟩)))
  go_loopw [37] (fun i wr => ∃ j : Nat, j ≤ traps.length ∧ i = .int .i64 j ∧ (∀ t ∈ traps.take j, TrapP cs code.length t) ∧ Only (fun _ => False) w1 wr) (fun i _ => traps.length - (intOf i).toNat)
  case atStart => exact ⟨0, Nat.zero_le _, rfl, (fun t ht => by simp at ht), Only.refl _ _⟩
  case round =>
    obtain ⟨j, hj, rfl, hall, hwr⟩ := hrel
    have hbr := hwr.heap HB1.out (fun h => h)
    have HBR := hid hbr
    have q3 := cell_blk hbr 3
    have q4 := cell_blk hbr 4
    have q5 := cell_blk hbr 5
    have q6 := cell_blk hbr 6
    have q7 := cell_blk hbr 7
    simp at q3 q4 q5 q6 q7
    have HALL := hid hall
    have hon := HON1.out.trans hwr (fun _ h => h.elim)
    have HWR := hid hwr
    clear hwr hbr hall HB1 HBX
    by_cases hlt : j < traps.length
    · have hjz : (j : Int) < (traps.length : Int) := by omega
      obtain ⟨b, o, e2, hc⟩ := (Traps.only hon HT.out).1.at hlt
      subst e2
      have htr := HT.out.2 _ (getD_mem hlt)
      have HMEM2 := hid (getD_mem hlt)
      have HTK := hid (take_snoc hlt)
      obtain ⟨k0, k1, k2, k3⟩ := hc
      obtain ⟨t, ht⟩ : ∃ t, traps.getD j default = t := ⟨_, rfl⟩
      rw [ht] at k0 k1 k2 k3 HMEM2 HTK
      clear ht htr
      obtain ⟨tf, tt, th, ty⟩ := t
      simp only at k0 k1 k2 k3
      have HON := hid hon
      have q5a : (wr.alloc (.cells #[.int .i64 tf, .int .i64 tt, .int .i64 th, .int .i64 ty] 190)).cell? ⟨w.heap.size, 5, none⟩ = some (.slice ac code.length cc) := ((Only.refl (fun _ => False) wr).alloc _).cell q5 (fun h => h)
      clear hon
      go_wp2_with (fail)
      refine (CT.out ⟨tf, tt, th, ty⟩ code.length (by omega) _ (HON.out.alloc _)).mono ?_
      rintro e w2 ⟨⟨htp, rfl⟩ | ⟨htp, rfl⟩, ho2⟩
      rotate_left
      · refine ⟨rfl, GoIf.no (fun hq => htp ?_) ((HON.out.alloc _).trans ho2 (fun _ h => h.elim))⟩
        rw [HQ.out] at hq
        exact hq.2.2 _ HMEM2.out
      have HTP := hid htp
      have HO2 := hid ((HWR.out.alloc _).trans ho2 (fun _ h => h.elim))
      clear ho2 htp
      go_wp2
      go_roundw
      case rel =>
        refine ⟨j + 1, by omega, by go_num, fun t ht => ?_, HO2.out⟩
        rw [HTK.out] at ht
        rcases List.mem_append.1 ht with ht | ht
        · exact HALL.out t ht
        · simp only [List.mem_cons, List.mem_nil_iff, or_false] at ht
          subst ht
          exact HTP.out
      case measure => simp [intOf]; omega
    · have hjn : j = traps.length := by omega
      have hnz : (traps.length : Int) ≤ (j : Int) := by omega
      have HTR := hid (show ∀ t ∈ traps, TrapP cs code.length t from fun t ht => HALL.out t (by rw [hjn, List.take_of_length_le (Nat.le_refl _)]; exact ht))
      have HON := hid hon
      clear hlt hjn hon
      have cI1 := CP.out codeT wr HON.out
      have CI1 := hid cI1
      clear cI1
      by_cases hm : (maps.length : Int) ≤ 4096
      rotate_left
      · have hmz : decide ((maps.length : Int) ≤ 4096) = false := decide_eq_false hm
        go_wp2_with (go_at_call 96; refine (mustF _).mono ?_; rintro e w' ⟨rfl, rfl⟩)
        refine ⟨rfl, GoIf.no (fun hq => ?_) HON.out⟩
        rw [HQ.out] at hq
        have := hq.2.1.2.2.1
        simp only at this
        omega
      go_wp2_with (go_at_call 96; refine (mustT _).mono ?_; rintro e w' ⟨rfl, rfl⟩)
      refine CI1.out.mono ?_
      rintro e w3 ⟨rfl, ho3⟩
      have hb3 := ho3.heap HBR.out (fun h => h)
      have r7 := cell_blk hb3 7
      simp at r7
      have HON3 := hid (HON.out.trans ho3 (fun _ h => h.elim))
      clear ho3 hb3 CI1
      by_cases hp1 : 0 < idxZ cs codeT
      rotate_left
      · have hpz : decide (0 < idxZ cs codeT) = false := decide_eq_false hp1
        have HP1 := hid hp1
        clear hp1
        go_wp2_with (go_at_call 96; refine (mustF _).mono ?_; rintro e w' ⟨rfl, rfl⟩)
        refine ⟨rfl, GoIf.no (fun hq => absurd (I1.out.2 ?_) (Int.not_lt.2 HP1.out)) HON3.out⟩
        rw [HQ.out] at hq
        exact hq.2.1.2.2.2.1
      have HP1 := hid (I1.out.1 hp1)
      have HYES := hid (fun (h : 0 < maps.length → placeOf cs mapsT ≠ 0) => show MethodP cs ⟨fl, nm, ds, st, lo, code, traps, maps⟩ from
        ⟨⟨HMEM.out.1, HMEM.out.2.1, HMEM.out.2.2, HS.out.1, HS.out.2, HL.out.1, HL.out.2⟩, ⟨show 1 ≤ code.length by omega, show code.length ≤ 4096 by omega, show maps.length ≤ 4096 by omega, HP1.out, h⟩, HTR.out⟩)
      by_cases hm0 : maps = []
      · subst hm0
        go_wp2_with (go_at_call 96; refine (mustT _).mono ?_; rintro e w' ⟨rfl, rfl⟩)
        go_end0
        exact GoIf.yes (HYES.out (fun h => absurd h (by simp))) HON3.out
      have hlp : 0 < maps.length := List.length_pos_iff.2 hm0
      have hmb : ((maps.length : Int) == 0) = false := by simpa using hm0
      have cI2 := CP.out mapsT w3 HON3.out
      have CI2 := hid cI2
      clear cI2
      go_wp2_with (go_at_call 96; refine (mustT _).mono ?_; rintro e w' ⟨rfl, rfl⟩)
      refine CI2.out.mono ?_
      rintro e w4 ⟨rfl, ho4⟩
      have HON4 := hid (HON3.out.trans ho4 (fun _ h => h.elim))
      clear ho4 CI2
      by_cases hp2 : 0 < idxZ cs mapsT
      · have HP2 := hid (I2.out.1 hp2)
        go_wp2_with (go_at_call 96; refine (mustT _).mono ?_; rintro e w' ⟨rfl, rfl⟩)
        go_end0
        exact GoIf.yes (HYES.out (fun _ => HP2.out)) HON4.out
      · have hpz : decide (0 < idxZ cs mapsT) = false := decide_eq_false hp2
        have HP2 := hid hp2
        clear hp2
        go_wp2_with (go_at_call 96; refine (mustF _).mono ?_; rintro e w' ⟨rfl, rfl⟩)
        refine ⟨rfl, GoIf.no (fun hq => absurd (I2.out.2 ?_) (Int.not_lt.2 HP2.out)) HON4.out⟩
        rw [HQ.out] at hq
        exact hq.2.1.2.2.2.2 hlp
end Go.Proofs.YtinbelghhfodiaaGreatDoor
