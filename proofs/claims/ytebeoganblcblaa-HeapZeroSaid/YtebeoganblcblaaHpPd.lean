/- The program's heap: places, Get, Set, Type, Len. Condition: each object's values are among those of all. -/
import Derived.Test.YtebeoganblcblaaHpPc
import Derived.Test.YtebeoganblcblaaHpS
namespace Go.Proofs.Ytebeoganblcblaa
open Go.RowKit
set_option linter.unusedVariables false
set_option linter.unusedSimpArgs false

theorem findZ_ok {ps : List ObP} {r : Int} (h : isOb ps.length r = true) : findZ14 ps r = (ps.getD (r.toNat - 1) default, 0) := by unfold findZ14; rw [if_pos h]
theorem findZ_no {ps : List ObP} {r : Int} (h : ¬ isOb ps.length r = true) : findZ14 ps r = (zeroPo, 6) := by unfold findZ14; rw [if_neg h]
section
variable {w : World} {G : Nat → Prop} {p : Nat} {L V : Value} {ps : List ObP} {vs : List ValV} {most : Int} (h : HeapQ w G p L V ps vs most)
include h
set_option maxHeartbeats 8000000 in
set_option maxRecDepth 100000 in
theorem pType14 (r : Int) : Calls Try.prog 23 #[.pointer (some ⟨p, 0, none⟩), .int .i64 r] w fun e w' => e = .returned (.tuple #[valT (findZ14 ps r).1.t, .int .i64 (findZ14 ps r).2]) ∧ Only (fun _ => False) w w' := by
  have ho := (Only.refl (fun _ => False) w).alloc (.cells #[.int .i64 0, .string ⟨#[]⟩, .int .i64 0, .int .i64 0, .int .i64 0] 32)
  have hr0 := heap_alloc_new w (.cells #[.int .i64 0, .string ⟨#[]⟩, .int .i64 0, .int .i64 0, .int .i64 0] 32)
  obtain ⟨W0, hW0⟩ : ∃ W0, w.alloc (.cells #[.int .i64 0, .string ⟨#[]⟩, .int .i64 0, .int .i64 0, .int .i64 0] 32) = W0 := ⟨_, rfl⟩
  rw [hW0] at ho hr0
  have C := Lib.hid (pFind14 (h.only ho (fun _ _ h => h)) r)
  unfold valPo at C
  generalize (findZ14 ps r).1 = x at *
  generalize (findZ14 ps r).2 = er at *
  have HR0 := Lib.hid hr0
  have HO0 := Lib.hid ho
  have HW0 := Lib.hid hW0
  clear h ho hr0 hW0
  go_enter Try.func23, Try.ntmps23
  go_wp2_with (fail)
  rw [HW0.out]
  refine C.out.mono ?_
  rintro e w1 ⟨rfl, ho1⟩
  have hr1 := ho1.heap HR0.out (fun h => h)
  have ho2 := (Only.refl (fun _ => False) w1).alloc (.cells #[.int .i64 x.t.k, .string x.t.name, .int .i64 x.t.dims, .int .i64 x.t.elem, .int .i64 x.t.at_, .int .i64 (x.a : Int), .int .i64 (x.b : Int)] 78)
  have hr2 := ho2.heap hr1 (fun h => h)
  have hx := heap_alloc_new w1 (.cells #[.int .i64 x.t.k, .string x.t.name, .int .i64 x.t.dims, .int .i64 x.t.elem, .int .i64 x.t.at_, .int .i64 (x.a : Int), .int .i64 (x.b : Int)] 78)
  obtain ⟨W2, hW2⟩ : ∃ W2, w1.alloc (.cells #[.int .i64 x.t.k, .string x.t.name, .int .i64 x.t.dims, .int .i64 x.t.elem, .int .i64 x.t.at_, .int .i64 (x.a : Int), .int .i64 (x.b : Int)] 78) = W2 := ⟨_, rfl⟩
  rw [hW2] at ho2 hr2 hx
  have HR2 := Lib.hid hr2
  have HO2 := Lib.hid (HO0.out.trans (ho1.trans ho2 (fun _ h _ => h)) (fun _ h _ => h))
  obtain ⟨m0, m1, m2, m3, m4⟩ := marks5T hr2
  obtain ⟨r0, r1, r2, r3, r4⟩ := cells5T hr2
  obtain ⟨q0, q1, q2, q3, q4, q5, q6⟩ := cells7O hx
  clear ho1 ho2 hr1 hr2 hx C
  go_wp2_with (fail)
  try rw [hW2]
  go_wp2
  exact bodyPost_ret (type_result2 (t := x.t) (b := w.heap.size) Try.results23 (store5T HR2.out) rfl rfl) rfl ⟨rfl, only5T HO2.out (fun hl => absurd hl (Nat.lt_irrefl _))⟩
set_option maxHeartbeats 8000000 in
set_option maxRecDepth 100000 in
theorem pLen14 (r : Int) (hb : ((findZ14 ps r).1.b : Int) ≤ 1048576) (ha : (findZ14 ps r).1.a ≤ (findZ14 ps r).1.b) : Calls Try.prog 24 #[.pointer (some ⟨p, 0, none⟩), .int .i64 r] w fun e w' => e = .returned (.int .i64 (((findZ14 ps r).1.b : Int) - ((findZ14 ps r).1.a : Int))) ∧ Only (fun _ => False) w w' := by
  have C := Lib.hid (pFind14 h r)
  unfold valPo at C
  generalize (findZ14 ps r).1 = x at *
  generalize (findZ14 ps r).2 = er at *
  have hw : wrap64 ((x.b : Int) - (x.a : Int)) = (x.b : Int) - (x.a : Int) := IntWalk.wrap64_in _ (by omega)
  clear h ha hb
  go_enter Try.func24, Try.ntmps24
  go_wp2_with (fail)
  refine C.out.mono ?_
  rintro e w1 ⟨rfl, ho1⟩
  have ho2 := (Only.refl (fun _ => False) w1).alloc (.cells #[.int .i64 x.t.k, .string x.t.name, .int .i64 x.t.dims, .int .i64 x.t.elem, .int .i64 x.t.at_, .int .i64 (x.a : Int), .int .i64 (x.b : Int)] 78)
  have hx := heap_alloc_new w1 (.cells #[.int .i64 x.t.k, .string x.t.name, .int .i64 x.t.dims, .int .i64 x.t.elem, .int .i64 x.t.at_, .int .i64 (x.a : Int), .int .i64 (x.b : Int)] 78)
  obtain ⟨W2, hW2⟩ : ∃ W2, w1.alloc (.cells #[.int .i64 x.t.k, .string x.t.name, .int .i64 x.t.dims, .int .i64 x.t.elem, .int .i64 x.t.at_, .int .i64 (x.a : Int), .int .i64 (x.b : Int)] 78) = W2 := ⟨_, rfl⟩
  rw [hW2] at ho2 hx
  have HO2 := Lib.hid (ho1.trans ho2 (fun _ h _ => h))
  obtain ⟨q0, q1, q2, q3, q4, q5, q6⟩ := cells7O hx
  clear ho1 ho2 hx C q0 q1 q2 q3 q4
  go_wp2_with (fail)
  try rw [hW2]
  try go_quiet (fail)
  go_wp2
  all_goals go_ret
  all_goals exact ⟨by show Ending.returned (.int .i64 (wrap64 _)) = _; rw [hw], by first | exact HO2.out | exact HO2.out.drewN _⟩
/-- No place: the error. -/
def placeE (ps : List ObP) (r i : Int) : Int := if isOb ps.length r then (if 0 ≤ i ∧ i < ((ps.getD (r.toNat - 1) default).b : Int) - ((ps.getD (r.toNat - 1) default).a : Int) then 0 else 1) else 6
set_option maxHeartbeats 8000000 in
set_option maxRecDepth 100000 in
theorem pPlace14 (hcut : ∀ i, i < ps.length → (ps.getD i default).a ≤ (ps.getD i default).b ∧ (ps.getD i default).b ≤ vs.length) (r i : Int) : Calls Try.prog 36 #[.pointer (some ⟨p, 0, none⟩), .int .i64 r, .int .i64 i] w fun e w' =>
    (placeE ps r i ≠ 0 → e = .returned (.tuple #[.pointer none, .int .i64 (placeE ps r i)])) ∧
    (placeE ps r i = 0 → ∃ g cv, V = .slice (some ⟨g, 0, none⟩) vs.length cv ∧ e = .returned (.tuple #[.pointer (some ⟨g, ((ps.getD (r.toNat - 1) default).a + i.toNat) * 3, none⟩), .int .i64 0])) ∧ Only (fun _ => False) w w' := by
  have C := Lib.hid (pFind14 h r)
  by_cases hr : isOb ps.length r = true
  · rw [findZ_ok hr] at C
    have hr1 : 1 ≤ r ∧ r ≤ (ps.length : Int) := by simpa [isOb] using hr
    have hi : r.toNat - 1 < ps.length := by omega
    obtain ⟨c1, c2⟩ := hcut _ hi
    have EP : Hid (placeE ps r i = if 0 ≤ i ∧ i < ((ps.getD (r.toNat - 1) default).b : Int) - ((ps.getD (r.toNat - 1) default).a : Int) then 0 else 1) := Lib.hid (by unfold placeE; rw [if_pos hr])
    have CC := Lib.hid (fun (W : World) (hW : Only (fun _ => False) w W) => pCut14 (h.only hW (fun _ _ h => h)) _ c1 c2)
    have CA := Lib.hid (fun (j : Nat) hj => h.cutAt (i := j) c1 c2 hj)
    generalize placeE ps r i = E at *
    generalize ps.getD (r.toNat - 1) default = x at *
    obtain ⟨t, xa, xb⟩ := x
    unfold valPo at C CC
    simp only at C CC CA EP c1 c2
    have HH := Lib.hid h
    obtain ⟨n, hn⟩ : ∃ n, xb - xa = n := ⟨_, rfl⟩
    have hcz : ∃ a cv, cutO V xa xb = .slice a n cv := by
      obtain ⟨ao, cap, av, cv, -, rfl, -⟩ := h.z
      exact ⟨_, _, by rw [← hn]; rfl⟩
    obtain ⟨ca, cc, hcv⟩ := hcz
    have hbi : (xb : Int) - (xa : Int) = (n : Int) := by omega
    rw [hbi] at EP
    rw [hn] at CA
    rw [hcv] at CC CA
    clear h hcut hr hr1 hi c1 c2 hbi hn
    by_cases hlo : i < 0
    · have d1 : decide (i < 0) = true := by simpa using hlo
      have hE : E = 1 := by rw [EP.out, if_neg (by omega)]
      subst hE
      clear EP
      go_enter Try.func36, Try.ntmps36
      go_wp2_with (fail)
      refine C.out.mono ?_
      rintro e w1 ⟨rfl, ho1⟩
      have ho2 := ho1.alloc (.cells #[.int .i64 t.k, .string t.name, .int .i64 t.dims, .int .i64 t.elem, .int .i64 t.at_, .int .i64 (xa : Int), .int .i64 (xb : Int)] 78)
      have hx := heap_alloc_new w1 (.cells #[.int .i64 t.k, .string t.name, .int .i64 t.dims, .int .i64 t.elem, .int .i64 t.at_, .int .i64 (xa : Int), .int .i64 (xb : Int)] 78)
      obtain ⟨W2, hW2⟩ : ∃ W2, w1.alloc (.cells #[.int .i64 t.k, .string t.name, .int .i64 t.dims, .int .i64 t.elem, .int .i64 t.at_, .int .i64 (xa : Int), .int .i64 (xb : Int)] 78) = W2 := ⟨_, rfl⟩
      rw [hW2] at ho2 hx
      have C2 := Lib.hid (CC.out W2 ho2)
      have HO2 := Lib.hid ho2
      have HW2 := Lib.hid hW2
      obtain ⟨q0, q1, q2, q3, q4, q5, q6⟩ := cells7O hx
      clear ho1 ho2 hx C CC hW2
      go_wp2_with (fail)
      try rw [HW2.out]
      go_wp2_with (fail)
      refine C2.out.mono ?_
      rintro e w3 ⟨rfl, ho3⟩
      have HO3 := Lib.hid (HO2.out.trans ho3 (fun _ h _ => h))
      clear ho3 C2 q0 q1 q2 q3 q4 q5 q6
      go_wp2
      go_ret2
      exact ⟨fun _ => rfl, (fun e => by cases e), HO3.out⟩
    have d1 : decide (i < 0) = false := by simpa using hlo
    by_cases hhi : (n : Int) ≤ i
    · have d2 : decide ((n : Int) ≤ i) = true := by simpa using hhi
      have hE : E = 1 := by rw [EP.out, if_neg (by omega)]
      subst hE
      clear EP hlo
      go_enter Try.func36, Try.ntmps36
      go_wp2_with (fail)
      refine C.out.mono ?_
      rintro e w1 ⟨rfl, ho1⟩
      have ho2 := ho1.alloc (.cells #[.int .i64 t.k, .string t.name, .int .i64 t.dims, .int .i64 t.elem, .int .i64 t.at_, .int .i64 (xa : Int), .int .i64 (xb : Int)] 78)
      have hx := heap_alloc_new w1 (.cells #[.int .i64 t.k, .string t.name, .int .i64 t.dims, .int .i64 t.elem, .int .i64 t.at_, .int .i64 (xa : Int), .int .i64 (xb : Int)] 78)
      obtain ⟨W2, hW2⟩ : ∃ W2, w1.alloc (.cells #[.int .i64 t.k, .string t.name, .int .i64 t.dims, .int .i64 t.elem, .int .i64 t.at_, .int .i64 (xa : Int), .int .i64 (xb : Int)] 78) = W2 := ⟨_, rfl⟩
      rw [hW2] at ho2 hx
      have C2 := Lib.hid (CC.out W2 ho2)
      have HO2 := Lib.hid ho2
      have HW2 := Lib.hid hW2
      obtain ⟨q0, q1, q2, q3, q4, q5, q6⟩ := cells7O hx
      clear ho1 ho2 hx C CC hW2
      go_wp2_with (fail)
      try rw [HW2.out]
      go_wp2_with (fail)
      refine C2.out.mono ?_
      rintro e w3 ⟨rfl, ho3⟩
      have HO3 := Lib.hid (HO2.out.trans ho3 (fun _ h _ => h))
      clear ho3 C2 q0 q1 q2 q3 q4 q5 q6
      go_wp2
      go_ret2
      exact ⟨fun _ => rfl, (fun e => by cases e), HO3.out⟩
    have d2 : decide ((n : Int) ≤ i) = false := by simpa using hhi
    have hE : E = 0 := by rw [EP.out, if_pos (by omega)]
    subst hE
    have hi0 : 0 ≤ i := by omega
    have hin : i < (n : Int) := by omega
    obtain ⟨g, cv, hV, hcu, hcc⟩ := CA.out i.toNat (by omega)
    injection hcu with e1 e2 e3
    subst e1 e3
    have HV := Lib.hid hV
    have HT := Lib.hid (show xa * 3 + i.toNat * 3 = (xa + i.toNat) * 3 from by omega)
    clear EP hlo hhi hcc CA hcv hV
    go_enter Try.func36, Try.ntmps36
    go_wp2_with (fail)
    refine C.out.mono ?_
    rintro e w1 ⟨rfl, ho1⟩
    have ho2 := ho1.alloc (.cells #[.int .i64 t.k, .string t.name, .int .i64 t.dims, .int .i64 t.elem, .int .i64 t.at_, .int .i64 (xa : Int), .int .i64 (xb : Int)] 78)
    have hx := heap_alloc_new w1 (.cells #[.int .i64 t.k, .string t.name, .int .i64 t.dims, .int .i64 t.elem, .int .i64 t.at_, .int .i64 (xa : Int), .int .i64 (xb : Int)] 78)
    obtain ⟨W2, hW2⟩ : ∃ W2, w1.alloc (.cells #[.int .i64 t.k, .string t.name, .int .i64 t.dims, .int .i64 t.elem, .int .i64 t.at_, .int .i64 (xa : Int), .int .i64 (xb : Int)] 78) = W2 := ⟨_, rfl⟩
    rw [hW2] at ho2 hx
    have C2 := Lib.hid (CC.out W2 ho2)
    have HO2 := Lib.hid ho2
    have HW2 := Lib.hid hW2
    obtain ⟨q0, q1, q2, q3, q4, q5, q6⟩ := cells7O hx
    clear ho1 ho2 hx C CC hW2
    go_wp2_with (fail)
    try rw [HW2.out]
    go_wp2_with (fail)
    refine C2.out.mono ?_
    rintro e w3 ⟨rfl, ho3⟩
    have HO3 := Lib.hid (HO2.out.trans ho3 (fun _ h _ => h))
    clear ho3 C2 q0 q1 q2 q3 q4 q5 q6
    go_wp2
    go_ret2
    exact ⟨fun e => absurd rfl e, fun _ => ⟨g, cv, HV.out, by rw [← HT.out]; rfl⟩, HO3.out⟩
  · rw [findZ_no hr] at C
    have hE : placeE ps r i = 6 := by unfold placeE; rw [if_neg hr]
    rw [hE]
    unfold valPo zeroPo zeroT at C
    clear h hcut hr hE
    go_enter Try.func36, Try.ntmps36
    go_wp2_with (fail)
    refine C.out.mono ?_
    rintro e w1 ⟨rfl, ho1⟩
    have HO1 := Lib.hid ho1
    clear ho1 C
    go_wp2
    go_ret2
    exact ⟨fun _ => rfl, (fun e => by cases e), HO1.out.alloc _⟩
/-- The value at a place. -/
def atP (ps : List ObP) (vs : List ValV) (r i : Int) : ValV := vs.getD ((ps.getD (r.toNat - 1) default).a + i.toNat) default
/-- What a place is. -/
theorem HeapQ.place (hcut : ∀ i, i < ps.length → (ps.getD i default).a ≤ (ps.getD i default).b ∧ (ps.getD i default).b ≤ vs.length) {r i : Int} (hE : placeE ps r i = 0) {g cv : Nat} (hV : V = .slice (some ⟨g, 0, none⟩) vs.length cv) :
    isOb ps.length r = true ∧ 0 ≤ i ∧ i < ((ps.getD (r.toNat - 1) default).b : Int) - ((ps.getD (r.toNat - 1) default).a : Int) ∧ (ps.getD (r.toNat - 1) default).a + i.toNat < vs.length ∧
    w.cell? ⟨g, ((ps.getD (r.toNat - 1) default).a + i.toNat) * 3, none⟩ = some (.int .i64 (atP ps vs r i).k) ∧ w.cell? ⟨g, ((ps.getD (r.toNat - 1) default).a + i.toNat) * 3 + 1, none⟩ = some (.int .i64 (atP ps vs r i).n) ∧ w.cell? ⟨g, ((ps.getD (r.toNat - 1) default).a + i.toNat) * 3 + 2, none⟩ = some (.int .i64 (atP ps vs r i).r) ∧
    (∀ j, w.frozen? ⟨g, j, none⟩ = false) := by
  unfold placeE at hE
  by_cases hr : isOb ps.length r = true
  · rw [if_pos hr] at hE
    by_cases hx : 0 ≤ i ∧ i < ((ps.getD (r.toNat - 1) default).b : Int) - ((ps.getD (r.toNat - 1) default).a : Int)
    · have hr1 : 1 ≤ r ∧ r ≤ (ps.length : Int) := by simpa [isOb] using hr
      have hi : r.toNat - 1 < ps.length := by omega
      obtain ⟨c1, c2⟩ := hcut _ hi
      obtain ⟨g', cv', e, -, hc⟩ := h.cutAt (i := i.toNat) c1 c2 (by omega)
      have hl : (ps.getD (r.toNat - 1) default).a + i.toNat < vs.length := by omega
      have hfz : ∀ j, w.frozen? ⟨g, j, none⟩ = false := fun j => by
        have := h.val
        rw [hV] at this
        exact owns_len this j
      rw [hV] at e
      injection e with e1
      injection e1 with e1
      injection e1 with e1
      subst e1
      unfold atP
      rw [Nat.add_mul]
      exact ⟨hr, hx.1, hx.2, hl, hc 0 (by decide), hc 1 (by decide), hc 2 (by decide), hfz⟩
    · rw [if_neg hx] at hE; cases hE
  · rw [if_neg hr] at hE; cases hE
set_option maxHeartbeats 8000000 in
set_option maxRecDepth 100000 in
theorem pGet14 (hcut : ∀ i, i < ps.length → (ps.getD i default).a ≤ (ps.getD i default).b ∧ (ps.getD i default).b ≤ vs.length) (r i : Int) : Calls Try.prog 20 #[.pointer (some ⟨p, 0, none⟩), .int .i64 r, .int .i64 i] w fun e w' =>
    e = .returned (.tuple #[valVa (if placeE ps r i = 0 then atP ps vs r i else default), .int .i64 (placeE ps r i)]) ∧ Only (fun _ => False) w w' := by
  have ho := (Only.refl (fun _ => False) w).alloc (.cells #[.int .i64 0, .int .i64 0, .int .i64 0] 34)
  have hr0 := heap_alloc_new w (.cells #[.int .i64 0, .int .i64 0, .int .i64 0] 34)
  obtain ⟨W0, hW0⟩ : ∃ W0, w.alloc (.cells #[.int .i64 0, .int .i64 0, .int .i64 0] 34) = W0 := ⟨_, rfl⟩
  rw [hW0] at ho hr0
  have h' := h.only ho (fun _ _ h => h)
  have C := Lib.hid (pPlace14 h' hcut r i)
  have HR0 := Lib.hid hr0
  have HO0 := Lib.hid ho
  have HW0 := Lib.hid hW0
  by_cases hE : placeE ps r i = 0
  · have CP := Lib.hid (fun (W : World) (hW : Only (fun _ => False) W0 W) (g cv : Nat) (hV : V = .slice (some ⟨g, 0, none⟩) vs.length cv) => (h'.only hW (fun _ _ h => h)).place hcut hE hV)
    rw [if_pos hE]
    rw [hE] at C ⊢
    generalize atP ps vs r i = x at *
    generalize ((ps.getD (r.toNat - 1) default).a + i.toNat) * 3 = o at *
    clear h h' ho hr0 hW0 hE
    go_enter Try.func20, Try.ntmps20
    go_wp2_with (fail)
    rw [HW0.out]
    refine C.out.mono ?_
    rintro e w1 ⟨-, hc, ho1⟩
    obtain ⟨g, cv, hV, rfl⟩ := hc (by trivial)
    obtain ⟨-, -, -, -, y0, y1, y2, -⟩ := CP.out w1 ho1 g cv hV
    have hr1 := ho1.heap HR0.out (fun h => h)
    obtain ⟨q0, q1, q2⟩ := cells3V hr1
    obtain ⟨m0, m1, m2⟩ := marks3V hr1
    have HR1 := Lib.hid hr1
    have HO1 := Lib.hid (HO0.out.trans ho1 (fun _ h _ => h))
    clear C CP hc ho1 hr1 hV
    go_wp2
    exact bodyPost_ret (val_result2 (t := x) (b := w.heap.size) Try.results20 (store3V HR1.out) rfl rfl) rfl ⟨rfl, only3V HO1.out (fun hl => absurd hl (Nat.lt_irrefl _))⟩
  · rw [if_neg hE]
    generalize placeE ps r i = E at *
    have ee : (E != 0) = true := by simpa using hE
    have HE := Lib.hid hE
    clear h h' ho hr0 hW0 hE
    go_enter Try.func20, Try.ntmps20
    go_wp2_with (fail)
    rw [HW0.out]
    refine C.out.mono ?_
    rintro e w1 ⟨hc, -, ho1⟩
    obtain rfl := hc HE.out
    have hr1 := ho1.heap HR0.out (fun h => h)
    obtain ⟨q0, q1, q2⟩ := cells3V hr1
    obtain ⟨m0, m1, m2⟩ := marks3V hr1
    have HR1 := Lib.hid hr1
    have HO1 := Lib.hid (HO0.out.trans ho1 (fun _ h _ => h))
    clear C hc ho1 hr1
    go_wp2
    exact bodyPost_ret (val_result2 (t := default) (b := w.heap.size) Try.results20 (store3V HR1.out) rfl rfl) rfl ⟨rfl, only3V HO1.out (fun hl => absurd hl (Nat.lt_irrefl _))⟩
set_option maxHeartbeats 8000000 in
set_option maxRecDepth 100000 in
theorem pSet14 (hcut : ∀ i, i < ps.length → (ps.getD i default).a ≤ (ps.getD i default).b ∧ (ps.getD i default).b ≤ vs.length) (r i : Int) (v : ValV) : Calls Try.prog 21 #[.pointer (some ⟨p, 0, none⟩), .int .i64 r, .int .i64 i, valVa v] w fun e w' =>
    e = .returned (.int .i64 (if placeE ps r i = 0 then (if (atP ps vs r i).k = v.k then 0 else 1) else placeE ps r i)) ∧
    HeapQ w' G p L V ps (if placeE ps r i = 0 ∧ (atP ps vs r i).k = v.k then vs.set ((ps.getD (r.toNat - 1) default).a + i.toNat) v else vs) most ∧ Only G w w' := by
  unfold valVa
  have ho := (Only.refl (fun _ => False) w).alloc (.cells #[.int .i64 v.k, .int .i64 v.n, .int .i64 v.r] 34)
  have hr0 := heap_alloc_new w (.cells #[.int .i64 v.k, .int .i64 v.n, .int .i64 v.r] 34)
  obtain ⟨W0, hW0⟩ : ∃ W0, w.alloc (.cells #[.int .i64 v.k, .int .i64 v.n, .int .i64 v.r] 34) = W0 := ⟨_, rfl⟩
  rw [hW0] at ho hr0
  have h' := h.only ho (fun _ _ h => h)
  have C := Lib.hid (pPlace14 h' hcut r i)
  have HR0 := Lib.hid hr0
  have HO0 := Lib.hid ho
  have HW0 := Lib.hid hW0
  by_cases hE : placeE ps r i = 0
  · have CP := Lib.hid (fun (W : World) (hW : Only (fun _ => False) W0 W) (g cv : Nat) (hV : V = .slice (some ⟨g, 0, none⟩) vs.length cv) => (h'.only hW (fun _ _ h => h)).place hcut hE hV)
    have HH := Lib.hid (fun (W : World) (hW : Only (fun _ => False) W0 W) => h'.only hW (fun _ _ h => h))
    rw [if_pos hE]
    rw [hE] at C ⊢
    have hgV := fun g cv (hV : V = .slice (some ⟨g, 0, none⟩) vs.length cv) => h.gV g (by rw [hV]; rfl)
    by_cases hk : (atP ps vs r i).k = v.k
    · rw [if_pos hk, if_pos ⟨rfl, hk⟩]
      have hkk : (v.k != (atP ps vs r i).k) = false := by simp [hk]
      generalize atP ps vs r i = x at *
      generalize (ps.getD (r.toNat - 1) default).a + i.toNat = o at *
      clear h h' ho hr0 hW0 hE
      go_enter Try.func21, Try.ntmps21
      go_wp2_with (fail)
      rw [HW0.out]
      refine C.out.mono ?_
      rintro e w1 ⟨-, hc, ho1⟩
      obtain ⟨g, cv, hV, rfl⟩ := hc (by trivial)
      obtain ⟨-, -, -, hlt, y0, y1, y2, hfz⟩ := CP.out w1 ho1 g cv hV
      have H1 := HH.out w1 ho1
      have hr1 := ho1.heap HR0.out (fun h => h)
      obtain ⟨q0, q1, q2⟩ := cells3V hr1
      have hgq := hgV g cv hV
      have f0 := hfz (o * 3)
      have f1 := hfz (o * 3 + 1)
      have f2 := hfz (o * 3 + 2)
      have HO1 := Lib.hid (HO0.out.trans ho1 (fun _ h _ => h))
      have HH1 := Lib.hid H1
      have HGQ := Lib.hid hgq
      have HV := Lib.hid hV
      have HLT := Lib.hid hlt
      clear C CP HH hc ho1 hr1 hgV hgq hfz H1 hlt hk
      go_wp2_with (fail)
      go_quiet (fail)
      go_wp2
      go_ret
      have hO : Only (fun k => k = g) w1 ((((w1.drewN nq).setCell ⟨g, o * 3, none⟩ (.int .i64 v.k)).setCell ⟨g, o * 3 + 1, none⟩ (.int .i64 v.n)).setCell ⟨g, o * 3 + 2, none⟩ (.int .i64 v.r)) := by
        iterate 3 (refine Only.setCell (S := fun k => k = g) ?_ (fun _ => rfl) _)
        exact (Only.refl _ w1).drewN _
      have H9 := HH1.out
      refine ⟨rfl, ⟨hO.heap H9.blk (fun e => HGQ.out.2.1 e.symm), RowG.only H9.row hO (fun k hk e => HGQ.out.2.2 (by rw [← e]; exact hk)), ?_, fun k hk => Nat.lt_of_lt_of_le (H9.lt k hk) hO.size, H9.gp, H9.gL, H9.gV, H9.few, by rw [List.length_set]; exact H9.fewV, H9.most0⟩, (HO1.out.mono (T := G) (fun _ h _ => h.elim)).trans (hO.mono (T := G) (fun k hk _ => by subst hk; exact HGQ.out.1)) (fun _ h _ => h)⟩
      have hv := H9.val
      rw [HV.out] at hv ⊢
      exact RowG.set3 (RowG.only hv ((Only.refl (fun _ => False) w1).drewN nq) (fun _ _ h => h)) o v
    · rw [if_neg hk, if_neg (fun e => hk e.2)]
      have hkk : (v.k != (atP ps vs r i).k) = true := by simp only [bne_iff_ne, ne_eq]; exact fun e => hk e.symm
      generalize atP ps vs r i = x at *
      generalize (ps.getD (r.toNat - 1) default).a + i.toNat = o at *
      clear h h' ho hr0 hW0 hgV hE
      go_enter Try.func21, Try.ntmps21
      go_wp2_with (fail)
      rw [HW0.out]
      refine C.out.mono ?_
      rintro e w1 ⟨-, hc, ho1⟩
      obtain ⟨g, cv, hV, rfl⟩ := hc (by trivial)
      obtain ⟨-, -, -, -, y0, y1, y2, -⟩ := CP.out w1 ho1 g cv hV
      have H1 := HH.out w1 ho1
      have hr1 := ho1.heap HR0.out (fun h => h)
      obtain ⟨q0, q1, q2⟩ := cells3V hr1
      have HO1 := Lib.hid (HO0.out.trans ho1 (fun _ h _ => h))
      have HH1 := Lib.hid H1
      clear C CP HH hc ho1 hr1 H1 hk hV
      go_wp2_with (fail)
      go_quiet (fail)
      go_wp2
      go_ret
      exact ⟨rfl, HH1.out.only ((Only.refl (fun _ => False) w1).drewN _) (fun _ _ h => h), (HO1.out.mono (fun _ h _ => h.elim)).drewN _⟩
  · rw [if_neg hE, if_neg (fun e => hE e.1)]
    generalize placeE ps r i = E at *
    have ee : (E != 0) = true := by simpa using hE
    have HE := Lib.hid hE
    have HH := Lib.hid (fun (W : World) (hW : Only (fun _ => False) W0 W) => h'.only hW (fun _ _ h => h))
    clear h h' ho hr0 hW0 hE
    go_enter Try.func21, Try.ntmps21
    go_wp2_with (fail)
    rw [HW0.out]
    refine C.out.mono ?_
    rintro e w1 ⟨hc, -, ho1⟩
    obtain rfl := hc HE.out
    have HH1 := Lib.hid (HH.out w1 ho1)
    have HO1 := Lib.hid (HO0.out.trans ho1 (fun _ h _ => h))
    clear C hc ho1
    go_wp2
    go_ret
    exact ⟨rfl, HH1.out, HO1.out.mono (fun _ h _ => h.elim)⟩
end
end Go.Proofs.Ytebeoganblcblaa
