/- The program's iterator over the places that instructions and traps name. Conditions: places are integers of the machine; lengths leave room. -/
import Derived.Test.YtngoajhnnlnphaaFloN
import Derived.Test.YtngoajhnnlnphaaFloP
import Derived.Test.YtngoajhnnlnphaaFloC
namespace Go.Proofs.Ytngoajhnnlnphaa
open Go.RowKit Go.Shelf
set_option linter.unusedVariables false
set_option linter.unusedSimpArgs false
attribute [local go_sem] Oper.semAt_some

/-! All cells are kept. -/
structure KeepA (W W' : World) : Prop where
  size : W.heap.size ≤ W'.heap.size
  cell : ∀ a u, W.cell? a = some u → W'.cell? a = some u
theorem KeepA.refl (W : World) : KeepA W W := ⟨Nat.le_refl _, fun _ _ h => h⟩
theorem KeepA.trans {X Y Z : World} (h : KeepA X Y) (k : KeepA Y Z) : KeepA X Z := ⟨Nat.le_trans h.size k.size, fun a u hc => k.cell a u (h.cell a u hc)⟩
theorem KeepA.only {W W' : World} (h : Only (fun _ => False) W W') : KeepA W W' := ⟨h.size, fun a u hc => h.cell hc (fun h => h)⟩
theorem keepA_b {n : Nat} (W : World) (l : Nat) (o o' : Obj) (_ : n ≤ l) (hl : W.heap[l]? = some o) (ho : o.isCells = false) (_ : o.isWalk = false) : KeepA W (W.putObj l o') := ⟨by simp, cell_putObj hl ho⟩
theorem InstrAt.keep {W W' : World} {b o i : Nat} {k : InstrV} (h : InstrAt W b o i k) (ho : KeepA W W') : InstrAt W' b o i k := ⟨ho.cell _ _ h.c0, ho.cell _ _ h.c1, ho.cell _ _ h.c2, ho.cell _ _ h.c3, ho.cell _ _ h.c4⟩
theorem Instrs.keep {W W' : World} {v : Value} {l : List InstrV} (h : Instrs W v l) (ho : KeepA W W') : Instrs W' v l := h.imp (fun _ _ _ _ _ h => h.keep ho)
theorem TrapAt.keep {W W' : World} {b o i : Nat} {t : TrapV} (h : TrapAt W b o i t) (ho : KeepA W W') : TrapAt W' b o i t := ⟨ho.cell _ _ h.c0, ho.cell _ _ h.c1, ho.cell _ _ h.c2, ho.cell _ _ h.c3⟩
theorem Traps.keep {W W' : World} {v : Value} {ts : List TrapV} (h : Traps W v ts) (ho : KeepA W W') : Traps W' v ts := ⟨h.1.imp (fun _ _ _ _ _ h => h.keep ho), h.2⟩

/-! What comes. -/
abbrev NameV := { x : Int × Bool // I64 x.1 }
abbrev encN (x : NameV) : Array Value := #[.int .i64 x.1.1, .bool x.1.2]
def nameI (k : InstrV) : List (Int × Bool) := if isLead k then [(k.a, false)] else []
def nameT (t : TrapV) : List (Int × Bool) := [(t.from_, false), (t.to_, true), (t.hand, false)]
def namesL (l : List InstrV) : List (Int × Bool) := l.flatMap nameI
def namesT (ts : List TrapV) : List (Int × Bool) := ts.flatMap nameT
def namesZ (l : List InstrV) (ts : List TrapV) : List (Int × Bool) := namesL l ++ namesT ts
theorem namesL_snoc {l : List InstrV} {j : Nat} (hj : j < l.length) : namesL (l.take (j + 1)) = namesL (l.take j) ++ nameI (l.getD j default) := by
  rw [List.take_add_one, namesL, List.flatMap_append]
  simp [namesL, List.getD, hj]
theorem namesT_snoc {ts : List TrapV} {j : Nat} (hj : j < ts.length) : namesT (ts.take (j + 1)) = namesT (ts.take j) ++ nameT (ts.getD j default) := by
  rw [List.take_add_one, namesT, List.flatMap_append]
  simp [namesT, List.getD, hj]
theorem mem_takeL {l : List InstrV} {j : Nat} {x : Int × Bool} (h : x ∈ namesL (l.take j)) : x ∈ namesL l := by
  unfold namesL at *
  rw [List.mem_flatMap] at *
  obtain ⟨k, hk, hx⟩ := h
  exact ⟨k, List.mem_of_mem_take hk, hx⟩
theorem mem_takeT {ts : List TrapV} {j : Nat} {x : Int × Bool} (h : x ∈ namesT (ts.take j)) : x ∈ namesT ts := by
  unfold namesT at *
  rw [List.mem_flatMap] at *
  obtain ⟨k, hk, hx⟩ := h
  exact ⟨k, List.mem_of_mem_take hk, hx⟩
/-- What has come is among the names. -/
def Among (l : List InstrV) (ts : List TrapV) (pre : List NameV) : Prop := ∀ x ∈ pre, x.1 ∈ namesZ l ts
theorem among_of {l : List InstrV} {ts : List TrapV} {pre : List NameV} {zs : List (Int × Bool)} (h : pre.map (·.1) = zs) (hz : ∀ x ∈ zs, x ∈ namesZ l ts) : Among l ts pre :=
  fun x hx => hz _ (by rw [← h]; exact List.mem_map_of_mem hx)

set_option maxHeartbeats 4000000 in
set_option maxRecDepth 100000 in
theorem named_in (n : Nat) (hn : 1 ≤ n) (v1 v2 : Value) (l : List InstrV) (ts : List TrapV) (w : World) (B1 B2 : Nat) (hl : Instrs w v1 l) (ht : Traps w v2 ts) (hB1 : w.cell? ⟨B1, 0, none⟩ = some v1) (hB2 : w.cell? ⟨B2, 0, none⟩ = some v2)
    (hra : ∀ k ∈ l, isLead k = true → I64 k.a) (hln : l.length ≤ 9223372036854775806) (hlt : ts.length ≤ 9223372036854775806) (lo : Nat) (J Jx : List NameV → World → Prop) (W : World) (hJ : ∀ s X Y, J s X → Only (fun _ => False) X Y → J s Y)
    (hY : ∀ pre x W1, J pre W1 → pre.length < l.length + 3 * ts.length → YieldAt Fence.wide (n - 1) Try.prog lo (encN x) W1 fun e W' =>
      (e = .returned (.bool true) ∧ J (pre ++ [x]) W' ∧ KeepA W1 W') ∨ (e = .returned (.bool false) ∧ Jx (pre ++ [x]) W'))
    (hs : KeepA w W) (h0 : J [] W) :
    CallsIn Fence.wide n Try.prog 39 #[.func (.yield lo) #[] #[], .pointer (some ⟨B1, 0, none⟩), .pointer (some ⟨B2, 0, none⟩)] W fun e W' => (∃ v, e = .returned v) ∧
      ((∃ xs, xs.map (·.1) = namesZ l ts ∧ J xs W') ∨ (∃ pre, Among l ts pre ∧ Jx pre W')) := by
  obtain ⟨a1, k1, rfl, p1, p2, p3, -⟩ := id hl
  obtain ⟨a2, k2, rfl, s1, s2, s3, -⟩ := id ht.1
  have hb1 := hs.cell _ _ hB1
  have HJ := Lib.hid hJ
  have HY := Lib.hid hY
  have HS := Lib.hid hs
  have HL := Lib.hid hl
  have HT := Lib.hid ht
  have HB2 := Lib.hid hB2
  have HRA := Lib.hid hra
  clear hJ hY hs hl ht hB1 hB2 hra p3 s3
  refine callsIn_of_wp Try.func39 rfl trivial ?_ rfl
  simp only [Try.ntmps39, List.size_toArray, List.length_cons, List.length_nil, Nat.reduceAdd, Nat.reduceSub, Array.replicate_succ, Array.replicate_zero, List.push_toArray, List.append_toArray, List.nil_append, List.cons_append]
  gi_wp2
  gi_loopw [12] (fun i wr => ∃ (j : Nat) (pre : List NameV), i = .int .i64 j ∧ j ≤ l.length ∧ Hid (pre.map (·.1) = namesL (l.take j)) ∧ Hid (pre.length ≤ j) ∧ Hid (KeepA w wr) ∧ Hid (J pre wr)) (fun i wr => l.length - (intOf i).toNat)
  case atStart => exact ⟨0, [], rfl, Nat.zero_le _, Lib.hid rfl, Lib.hid (Nat.le_refl _), HS, Lib.hid h0⟩
  case round =>
    obtain ⟨j, pre, rfl, hj, HP, HN, HK, HJR⟩ := hrel
    by_cases hlt1 : j < l.length
    · have hjz : (j : Int) < (l.length : Int) := by omega
      obtain ⟨b, o, rfl, c⟩ := Sl.at (HL.out.keep HK.out) hlt1
      have hkm := getD_mem hlt1
      have hsn := namesL_snoc hlt1
      have HRK := Lib.hid (HRA.out _ hkm)
      have HMEM : Hid (isLead (l.getD j default) = true → (((l.getD j default).a, false) : Int × Bool) ∈ namesL l) := Lib.hid (fun h => by
        unfold namesL nameI
        rw [List.mem_flatMap]
        exact ⟨_, hkm, by rw [if_pos h]; simp⟩)
      obtain ⟨q0, q1, q2, q3, q4⟩ := c
      generalize l.getD j default = k at *
      have HSN := Lib.hid hsn
      have hal := (Only.refl (fun _ => False) wr).alloc (.cells #[.int .i64 k.at_, .int .i64 k.op, .int .i64 k.a, .int .i64 k.b, .int .i64 k.size] 39)
      have c1 := progLeads k (wr.alloc (.cells #[.int .i64 k.at_, .int .i64 k.op, .int .i64 k.a, .int .i64 k.b, .int .i64 k.size] 39))
      have HAL := Lib.hid hal
      clear hsn hal hkm
      cases hld : isLead k
      · have HG : Hid (pre.map (·.1) = namesL (l.take (j + 1))) := Lib.hid (by rw [HSN.out, nameI, hld, HP.out]; simp)
        have hlz : leadZ k = 0 := by unfold leadZ; rw [hld]; rfl
        rw [hld, hlz] at c1
        unfold valI at c1
        have C1 := Lib.hid c1
        clear c1 hld hlz
        gi_wp2_with (fail)
        refine ⟨trivial, (callsIn_wide.2 C1.out).mono ?_⟩
        rintro e w3 ⟨rfl, ho3⟩
        have ho4 := HAL.out.trans ho3 (fun _ h _ => h)
        have HJ3 := Lib.hid (HJ.out _ _ _ HJR.out ho4)
        have HK3 := Lib.hid (HK.out.trans (KeepA.only ho4))
        clear ho3 ho4 C1
        gi_wp2
        refine ⟨fun _ h => (by cases h), ?_⟩
        gi_wp2
        go_roundw
        case rel => exact ⟨j + 1, pre, by go_num, by omega, HG, Lib.hid (by have := HN.out; omega), HK3, HJ3⟩
        case measure => simp [intOf]; omega
      · have hI := HRK.out hld
        have HG : Hid ((pre ++ [(⟨(k.a, false), hI⟩ : NameV)]).map (·.1) = namesL (l.take (j + 1))) := Lib.hid (by rw [HSN.out, nameI, hld, List.map_append, HP.out]; simp)
        have HM := HMEM.out hld
        have HA : Hid (Among l ts (pre ++ [(⟨(k.a, false), hI⟩ : NameV)])) := Lib.hid (among_of HG.out (fun x hx => List.mem_append_left _ (mem_takeL hx)))
        rw [hld, leadZ_yes hld] at c1
        unfold valI at c1
        have C1 := Lib.hid c1
        clear c1 hld HM
        gi_wp2_with (fail)
        refine ⟨trivial, (callsIn_wide.2 C1.out).mono ?_⟩
        rintro e w3 ⟨rfl, ho3⟩
        have ho4 := HAL.out.trans ho3 (fun _ h _ => h)
        obtain ⟨fn, tmps, assign, body, hy, hR⟩ := HY.out pre ⟨(k.a, false), hI⟩ _ (HJ.out _ _ _ HJR.out ho4) (by have := HN.out; omega)
        try dsimp only at hy
        have HR3 := Lib.hid hR
        have HK3 := Lib.hid (HK.out.trans (KeepA.only ho4))
        clear ho3 ho4 hR C1
        gi_wp2
        refine HR3.out.mono ?_
        rintro e9 W3 (⟨rfl, hJ3, hk3⟩ | ⟨rfl, hJx3⟩)
        · have HJ3 := Lib.hid hJ3
          have HK4 := Lib.hid (HK3.out.trans hk3)
          clear hJ3 hk3 hy
          gi_wp2
          go_roundw
          case rel => exact ⟨j + 1, _, by go_num, by omega, HG, Lib.hid (by have := HN.out; simp; omega), HK4, HJ3⟩
          case measure => simp [intOf]; omega
        · have HJ3 := Lib.hid hJx3
          clear hJx3 hy
          gi_wp2
          refine bodyPost_ret (results_none rfl _ _ _) rfl ?_
          exact ⟨⟨_, rfl⟩, .inr ⟨_, HA.out, HJ3.out⟩⟩
    · have hb2 := HK.out.cell _ _ HB2.out
      have HP0 : Hid (pre.map (·.1) = namesL l) := Lib.hid (by have := HP.out; rwa [List.take_of_length_le (by omega)] at this)
      have HN0 : Hid (pre.length ≤ l.length) := Lib.hid (by have := HN.out; omega)
      obtain rfl : j = l.length := by omega
      clear hlt1 hj
      gi_wp2
      generalize hwA : wr = wA at *
      clear hwA
      gi_loopw [31] (fun i wr => ∃ (j : Nat) (pre : List NameV), i = .int .i64 j ∧ j ≤ ts.length ∧ Hid (pre.map (·.1) = namesL l ++ namesT (ts.take j)) ∧ Hid (pre.length ≤ l.length + 3 * j) ∧ Hid (KeepA w wr) ∧ Hid (J pre wr)) (fun i wr => ts.length - (intOf i).toNat)
      case atStart => exact ⟨0, pre, rfl, Nat.zero_le _, Lib.hid (by rw [HP0.out]; simp [namesT]), Lib.hid (by have := HN0.out; omega), HK, HJR⟩
      case round =>
        obtain ⟨j, pre, rfl, hj, HP, HN, HK2, HJ2⟩ := hrel
        by_cases hlt1 : j < ts.length
        · have hjz : (j : Int) < (ts.length : Int) := by omega
          obtain ⟨b, o, rfl, c⟩ := Sl.at (HT.out.1.imp (fun _ _ _ _ _ h => h.keep HK2.out)) hlt1
          have htm := getD_mem hlt1
          have hsn := namesT_snoc hlt1
          have hti := HT.out.2 _ htm
          have HSUB : Hid (∀ x ∈ nameT (ts.getD j default), x ∈ namesZ l ts) := Lib.hid (fun x hx => List.mem_append_right _ (by unfold namesT; rw [List.mem_flatMap]; exact ⟨_, htm, hx⟩))
          have HSUB0 : Hid (∀ x ∈ namesL l ++ namesT (ts.take j), x ∈ namesZ l ts) := Lib.hid (fun x hx => by
            rcases List.mem_append.1 hx with h | h
            · exact List.mem_append_left _ h
            · exact List.mem_append_right _ (mem_takeT h))
          obtain ⟨q0, q1, q2, q3⟩ := c
          generalize ts.getD j default = t at *
          obtain ⟨t1, t2, t3, t4⟩ := t
          obtain ⟨i1, i2, i3, -⟩ := hti
          simp only at q0 q1 q2 q3 i1 i2 i3
          have HSN := Lib.hid hsn
          have HI1 := Lib.hid i1
          have HI2 := Lib.hid i2
          have HI3 := Lib.hid i3
          have hal := (Only.refl (fun _ => False) wr).alloc (.cells #[.int .i64 t1, .int .i64 t2, .int .i64 t3, .int .i64 t4] 48)
          have hnew := heap_alloc_new wr (.cells #[.int .i64 t1, .int .i64 t2, .int .i64 t3, .int .i64 t4] 48)
          have HC1 := Lib.hid (cell_blk hnew 1)
          have HC2 := Lib.hid (cell_blk hnew 2)
          have HP1 : Hid ((pre ++ [(⟨(t1, false), i1⟩ : NameV)]).map (·.1) = namesL l ++ namesT (ts.take j) ++ [(t1, false)]) := Lib.hid (by rw [List.map_append, HP.out]; rfl)
          have HP2 : Hid ((pre ++ [(⟨(t1, false), i1⟩ : NameV)] ++ [(⟨(t2, true), i2⟩ : NameV)]).map (·.1) = namesL l ++ namesT (ts.take j) ++ [(t1, false)] ++ [(t2, true)]) := Lib.hid (by rw [List.map_append, HP1.out]; rfl)
          have HP3 : Hid ((pre ++ [(⟨(t1, false), i1⟩ : NameV)] ++ [(⟨(t2, true), i2⟩ : NameV)] ++ [(⟨(t3, false), i3⟩ : NameV)]).map (·.1) = namesL l ++ namesT (ts.take j) ++ [(t1, false)] ++ [(t2, true)] ++ [(t3, false)]) := Lib.hid (by rw [List.map_append, HP2.out]; rfl)
          have HA1 : Hid (Among l ts (pre ++ [(⟨(t1, false), i1⟩ : NameV)])) := Lib.hid (among_of HP1.out (fun x hx => by
            rcases List.mem_append.1 hx with h | h
            · exact HSUB0.out x h
            · exact HSUB.out x (by rw [List.mem_singleton.1 h]; simp [nameT])))
          have HA2 : Hid (Among l ts (pre ++ [(⟨(t1, false), i1⟩ : NameV)] ++ [(⟨(t2, true), i2⟩ : NameV)])) := Lib.hid (among_of HP2.out (fun x hx => by
            simp only [List.mem_append, List.mem_singleton] at hx
            rcases hx with ((h | h) | h) | h
            · exact HSUB0.out x (List.mem_append_left _ h)
            · exact HSUB0.out x (List.mem_append_right _ h)
            · exact HSUB.out x (by rw [h]; simp [nameT])
            · exact HSUB.out x (by rw [h]; simp [nameT])))
          have HA3 : Hid (Among l ts (pre ++ [(⟨(t1, false), i1⟩ : NameV)] ++ [(⟨(t2, true), i2⟩ : NameV)] ++ [(⟨(t3, false), i3⟩ : NameV)])) := Lib.hid (among_of HP3.out (fun x hx => by
            simp only [List.mem_append, List.mem_singleton] at hx
            rcases hx with (((h | h) | h) | h) | h
            · exact HSUB0.out x (List.mem_append_left _ h)
            · exact HSUB0.out x (List.mem_append_right _ h)
            · exact HSUB.out x (by rw [h]; simp [nameT])
            · exact HSUB.out x (by rw [h]; simp [nameT])
            · exact HSUB.out x (by rw [h]; simp [nameT])))
          have HPF : Hid ((pre ++ [(⟨(t1, false), i1⟩ : NameV)] ++ [(⟨(t2, true), i2⟩ : NameV)] ++ [(⟨(t3, false), i3⟩ : NameV)]).map (·.1) = namesL l ++ namesT (ts.take (j + 1))) := Lib.hid (by rw [HP3.out, HSN.out]; simp [nameT])
          obtain ⟨fn, tmps, assign, body, hy, hR⟩ := HY.out pre ⟨(t1, false), i1⟩ _ (HJ.out _ _ _ HJ2.out hal) (by have := HN.out; omega)
          try dsimp only at hy
          have HR3 := Lib.hid hR
          have HK3 := Lib.hid (HK2.out.trans (KeepA.only hal))
          clear hal hR hnew hsn htm
          gi_wp2
          refine HR3.out.mono ?_
          rintro e9 W3 (⟨rfl, hJ3, hk3⟩ | ⟨rfl, hJx3⟩)
          · have c1 := hk3.cell _ _ HC1.out
            have HC2b := Lib.hid (hk3.cell _ _ HC2.out)
            have HK4 := Lib.hid (HK3.out.trans hk3)
            obtain ⟨fn, tmps, assign, body, hy2, hR2⟩ := HY.out _ ⟨(t2, true), i2⟩ _ hJ3 (by have := HN.out; simp; omega)
            try dsimp only at hy2
            have HR4 := Lib.hid hR2
            clear hJ3 hk3 hy hR2
            gi_wp2
            refine HR4.out.mono ?_
            rintro e9 W4 (⟨rfl, hJ4, hk4⟩ | ⟨rfl, hJx4⟩)
            · have c2 := hk4.cell _ _ HC2b.out
              have HK5 := Lib.hid (HK4.out.trans hk4)
              obtain ⟨fn, tmps, assign, body, hy3, hR3⟩ := HY.out _ ⟨(t3, false), i3⟩ _ hJ4 (by have := HN.out; simp; omega)
              try dsimp only at hy3
              have HR5 := Lib.hid hR3
              clear hJ4 hk4 hy2 hR3 c1
              gi_wp2
              refine HR5.out.mono ?_
              rintro e9 W5 (⟨rfl, hJ5, hk5⟩ | ⟨rfl, hJx5⟩)
              · have HJ5 := Lib.hid hJ5
                have HK6 := Lib.hid (HK5.out.trans hk5)
                clear hJ5 hk5 hy3 c2
                gi_wp2
                go_roundw
                case rel => exact ⟨j + 1, _, by go_num, by omega, HPF, Lib.hid (by have := HN.out; simp; omega), HK6, HJ5⟩
                case measure => simp [intOf]; omega
              · have HJ5 := Lib.hid hJx5
                clear hJx5 hy3 c2
                gi_wp2
                refine bodyPost_ret (results_none rfl _ _ _) rfl ?_
                exact ⟨⟨_, rfl⟩, .inr ⟨_, HA3.out, HJ5.out⟩⟩
            · have HJ4 := Lib.hid hJx4
              clear hJx4 hy2 c1
              gi_wp2
              refine ⟨fun _ h => (by cases h), ?_⟩
              gi_wp2
              refine bodyPost_ret (results_none rfl _ _ _) rfl ?_
              exact ⟨⟨_, rfl⟩, .inr ⟨_, HA2.out, HJ4.out⟩⟩
          · have HJ3 := Lib.hid hJx3
            clear hJx3 hy
            gi_wp2
            refine ⟨fun _ h => (by cases h), ?_⟩
            gi_wp2
            refine ⟨fun _ h => (by cases h), ?_⟩
            gi_wp2
            refine bodyPost_ret (results_none rfl _ _ _) rfl ?_
            exact ⟨⟨_, rfl⟩, .inr ⟨_, HA1.out, HJ3.out⟩⟩
        · have HPF : Hid (pre.map (·.1) = namesZ l ts) := Lib.hid (by have := HP.out; rwa [List.take_of_length_le (by omega)] at this)
          obtain rfl : j = ts.length := by omega
          clear hlt1 hj
          gi_wp2
          go_end0
          exact ⟨⟨_, rfl⟩, .inl ⟨_, HPF.out, HJ2.out⟩⟩
end Go.Proofs.Ytngoajhnnlnphaa
