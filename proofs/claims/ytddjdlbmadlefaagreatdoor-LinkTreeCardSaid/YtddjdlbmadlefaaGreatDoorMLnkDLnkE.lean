/- The chain of supers in plain words; the document's own slots of a program. Condition: the program is small, its chains end. The document's own slots of an object, Look, Main. Condition: the program is small, its chains end, its names are each once. -/
import Derived.Deep.RegionHeld3
import Derived.Test.YtddjdlbmadlefaaGreatDoorMLnkALnkC
namespace Go.Proofs.YtddjdlbmadlefaaGreatDoor
open Go.RowKit
set_option linter.unusedVariables false
set_option linter.unusedSimpArgs false

/-! A class, its super, and so on. -/
def Ends (ks : List KindV) : Nat → Int → Prop
  | 0, x => x < 0
  | f + 1, x => x < 0 ∨ Ends ks f (superZ ks x)
def chain (ks : List KindV) : Nat → Int → List Nat
  | 0, _ => []
  | f + 1, x => if x < 0 then [] else x.toNat :: chain ks f (superZ ks x)
theorem chain_zero (ks : List KindV) (x : Int) : chain ks 0 x = [] := rfl
theorem chain_succ (ks : List KindV) (f : Nat) (x : Int) : chain ks (f + 1) x = if x < 0 then [] else x.toNat :: chain ks f (superZ ks x) := rfl
theorem Ends.more {ks : List KindV} : ∀ {f : Nat} {x : Int}, Ends ks f x → Ends ks (f + 1) x
  | 0, x, h => .inl h
  | f + 1, x, h => by
    rcases h with h | h
    · exact .inl h
    · exact .inr h.more
theorem chain_more {ks : List KindV} : ∀ {f : Nat} {x : Int}, Ends ks f x → chain ks (f + 1) x = chain ks f x
  | 0, x, h => by
    rw [chain_succ, if_pos (show x < 0 from h)]
    rfl
  | f + 1, x, h => by
    rw [chain_succ ks (f + 1) x, chain_succ ks f x]
    by_cases h0 : x < 0
    · rw [if_pos h0, if_pos h0]
    · rcases h with h | h
      · exact absurd h h0
      · rw [if_neg h0, if_neg h0, chain_more h]
def upZ (ks : List KindV) (x : Int) : List Nat := chain ks (ks.length + 1) x
/-- Every chain of a program ends. -/
def EndsAll (ks : List KindV) : Prop := ∀ x : Int, x < ks.length → Ends ks (ks.length + 1) x
theorem upZ_end {ks : List KindV} {x : Int} (h : x < 0) : upZ ks x = [] := by
  unfold upZ
  rw [chain_succ, if_pos h]
theorem superZ_lt (ks : List KindV) (x : Int) : superZ ks x < ks.length := by
  rcases superZ_cases ks x with h | ⟨j, hj, h⟩
  · rw [h]; omega
  · rw [h]; omega
theorem upZ_step {ks : List KindV} (he : EndsAll ks) {x : Nat} (h : x < ks.length) : upZ ks (x : Int) = x :: upZ ks (superZ ks x) := by
  have h1 := he x (by omega)
  have h2 : Ends ks ks.length (superZ ks x) := by
    rcases h1 with h1 | h1
    · omega
    · exact h1
  unfold upZ
  rw [chain_succ, if_neg (by omega), chain_more h2]
  rfl
def sumN : List Nat → Nat
  | [] => 0
  | a :: r => a + sumN r
/-- How many slots an object has. -/
def slotsN (ks : List KindV) (x : Int) : Nat := sumN ((upZ ks x).map (fun j => countL 0 (ks.getD j default).fields))
/-- How many static slots there are ahead of a class. -/
def staticsN (ks : List KindV) (n : Nat) : Nat := sumN ((ks.take n).map (fun k => countL 8 k.fields))
theorem slotsN_end {ks : List KindV} {x : Int} (h : x < 0) : slotsN ks x = 0 := by unfold slotsN; rw [upZ_end h]; rfl
theorem slotsN_step {ks : List KindV} (he : EndsAll ks) {x : Nat} (h : x < ks.length) : slotsN ks (x : Int) = countL 0 (ks.getD x default).fields + slotsN ks (superZ ks x) := by
  unfold slotsN
  rw [upZ_step he h]
  rfl
theorem sumN_append : ∀ a b : List Nat, sumN (a ++ b) = sumN a + sumN b
  | [], b => by rw [List.nil_append]; show _ = 0 + _; omega
  | x :: a, b => by show x + sumN (a ++ b) = (x + sumN a) + sumN b; rw [sumN_append a b]; omega
theorem staticsN_step {ks : List KindV} {n : Nat} (h : n < ks.length) : staticsN ks (n + 1) = staticsN ks n + countL 8 (ks.getD n default).fields := by
  unfold staticsN
  rw [List.take_succ_eq_append_getElem h, List.map_append, sumN_append]
  rw [show ks.getD n default = ks[n] by simp [List.getD, h]]
  rfl
theorem staticsN_le {ks : List KindV} (hs : SmallK ks) : ∀ {n : Nat}, n ≤ ks.length → staticsN ks n ≤ 64 * n
  | 0, _ => Nat.zero_le _
  | n + 1, h => by
    have h1 := staticsN_le hs (n := n) (by omega)
    have h2 := countL_le 8 (ks.getD n default).fields
    have h3 := (hs.2 _ (getD_mem (show n < ks.length by omega))).1
    rw [staticsN_step (by omega)]
    omega
theorem chain_len {ks : List KindV} : ∀ (f : Nat) (x : Int), (chain ks f x).length ≤ f
  | 0, x => Nat.le_refl _
  | f + 1, x => by
    rw [chain_succ]
    split
    · exact Nat.zero_le _
    · rw [List.length_cons]
      have := chain_len (ks := ks) f (superZ ks x)
      omega
theorem upZ_len {ks : List KindV} (hs : SmallK ks) (x : Int) : (upZ ks x).length ≤ 65 := by
  have h1 := chain_len (ks := ks) (ks.length + 1) x
  have := hs.1
  unfold upZ
  omega
theorem slotsN_le {ks : List KindV} (hs : SmallK ks) (he : EndsAll ks) : ∀ (n : Nat) {x : Int}, x < ks.length → (upZ ks x).length = n → slotsN ks x ≤ 64 * n
  | n, x, hx, hn => by
    by_cases h0 : x < 0
    · rw [slotsN_end h0]; exact Nat.zero_le _
    · obtain ⟨j, rfl⟩ := Int.eq_ofNat_of_zero_le (show 0 ≤ x by omega)
      have hj : j < ks.length := by omega
      rw [upZ_step he hj, List.length_cons] at hn
      cases n with
      | zero => omega
      | succ n =>
        have h1 := slotsN_le hs he n (superZ_lt ks j) (by omega)
        have h2 := countL_le 0 (ks.getD j default).fields
        have h3 := (hs.2 _ (getD_mem hj)).1
        rw [slotsN_step he hj]
        omega
theorem slotsN_small {ks : List KindV} (hs : SmallK ks) (he : EndsAll ks) {x : Int} (hx : x < ks.length) : slotsN ks x ≤ 4160 := by
  have h1 := slotsN_le hs he _ hx rfl
  have h2 := upZ_len hs x
  omega
theorem keepD {w W w1 : World} {pb : Nat} {ks : List KindV} {cs : List ClassV} {a0 a1 : Addr} {v0 v1 vf : Value} {ms : List MethN} (ho : Only (fun _ => False) W w1)
    (h : (W.cell? a0 = some v0 ∧ W.cell? a1 = some v1) ∧ DocP W pb ks cs ∧ MethNs W vf ms ∧ Only (fun _ => False) w W) : (w1.cell? a0 = some v0 ∧ w1.cell? a1 = some v1) ∧ DocP w1 pb ks cs ∧ MethNs w1 vf ms ∧ Only (fun _ => False) w w1 :=
  ⟨⟨ho.cell h.1.1 (fun h => h), ho.cell h.1.2 (fun h => h)⟩, h.2.1.only ho, h.2.2.1.only ho, h.2.2.2.trans ho (fun _ h _ => h)⟩
theorem docD {w W : World} {pb : Nat} {ks : List KindV} {cs : List ClassV} {a0 a1 : Addr} {v0 v1 vf : Value} {ms : List MethN}
    (h : (W.cell? a0 = some v0 ∧ W.cell? a1 = some v1) ∧ DocP W pb ks cs ∧ MethNs W vf ms ∧ Only (fun _ => False) w W) : DocP W pb ks cs := h.2.1
theorem mthD {w W : World} {pb : Nat} {ks : List KindV} {cs : List ClassV} {a0 a1 : Addr} {v0 v1 vf : Value} {ms : List MethN}
    (h : (W.cell? a0 = some v0 ∧ W.cell? a1 = some v1) ∧ DocP W pb ks cs ∧ MethNs W vf ms ∧ Only (fun _ => False) w W) : MethNs W vf ms := h.2.2.1
theorem onlyD {w W : World} {pb : Nat} {ks : List KindV} {cs : List ClassV} {a0 a1 : Addr} {v0 v1 vf : Value} {ms : List MethN}
    (h : (W.cell? a0 = some v0 ∧ W.cell? a1 = some v1) ∧ DocP W pb ks cs ∧ MethNs W vf ms ∧ Only (fun _ => False) w W) : Only (fun _ => False) w W := h.2.2.2

set_option maxHeartbeats 8000000 in
set_option maxRecDepth 100000 in
theorem refStaticsN (pb : Nat) (ks : List KindV) (cs : List ClassV) (n : Nat) (w : World) (hd : DocP w pb ks cs) (hs : SmallK ks) (hn : n ≤ ks.length) :
    Calls Tryz.prog 73 #[.pointer (some ⟨pb, 0, none⟩), .int .i64 n, .bool true] w fun e w' => e = .returned (.int .i64 (staticsN ks n : Int)) ∧ Only (fun _ => False) w w' := by
  have HD := Lib.hid hd
  have HS := Lib.hid hs
  have hkl := hs.1
  have hn0 : ¬ (n : Int) < 0 := by omega
  clear hd hs
  go_enter Tryz.func73, Tryz.ntmps73
  go_wp2
  go_loopw [7, 8] (fun sv iv wr => ∃ j s : Nat, sv = .int .i64 s ∧ iv = .int .i64 j ∧ j ≤ n ∧ s ≤ 64 * j ∧ Hid (staticsN ks j = s) ∧ Hid (Only (fun _ => False) w wr)) (fun _ iv _ => n - (intOf iv).toNat)
  case atStart => exact ⟨0, 0, rfl, rfl, Nat.zero_le _, Nat.le_refl _, Lib.hid rfl, Lib.hid (Only.refl _ _)⟩
  case round =>
    obtain ⟨j, s, rfl, rfl, hj, hsj, HSN, HON⟩ := hrel
    by_cases hlt : j < n
    · have hjz : (j : Int) < (n : Int) := by omega
      have hjk : j < ks.length := by omega
      have hjkz : (j : Int) < (ks.length : Int) := by omega
      have hj0 : (0 : Int) ≤ (j : Int) := by omega
      obtain ⟨vl, vi, q0, q1, hk, hc⟩ := HD.out.only HON.out
      obtain ⟨ao, cap, rfl, p1, p2⟩ := hk.len
      obtain ⟨b, o, vf, vm, rfl, y, hf, -⟩ := hk.at hjk
      have q2 := y.c2
      have hst := staticsN_step hjk
      have hfl := (HS.out.2 _ (getD_mem hjk)).1
      have hcl := countL_le 8 (ks.getD j default).fields
      have hD2 := HD.out.only HON.out
      have hO2 := HON.out
      generalize ks.getD j default = p at *
      obtain ⟨af, cf, rfl, f1, f2, f3, -⟩ := id hf
      have CC : Hid (∀ W, MethNs W (.slice af p.fields.length cf) p.fields → _) := Lib.hid (fun W h => refCount _ p.fields p.fields.length 8 W h (by omega) (Nat.le_refl _))
      have HST : Hid (staticsN ks (j + 1) = s + countL 8 p.fields) := Lib.hid (by rw [hst, HSN.out])
      rw [List.take_length] at CC
      obtain ⟨c, hcq⟩ : ∃ c, countL 8 p.fields = c := ⟨_, rfl⟩
      rw [hcq] at CC hcl HST
      have hsc : IntKind.i64.wrap ((s : Int) + (c : Int)) = (s : Int) + (c : Int) := by rw [IntKind.wrap_i64]; omega
      clear hk hc q1 y f3 hst hcq
      go_wp2
      go_region_held3 (fun W => (W.cell? ⟨pb, 0, none⟩ = some (.slice (some ⟨b, o, none⟩) ks.length cap) ∧ W.cell? ⟨b, o + j * 5 + 2, none⟩ = some (.slice af p.fields.length cf)) ∧ DocP W pb ks cs ∧ MethNs W (.slice af p.fields.length cf) p.fields ∧ Only (fun _ => False) w W)
        (first | exact ⟨⟨q0, q2⟩, hD2, hf, hO2⟩ | exact ⟨⟨q0, q2⟩, hD2.only (Only.refl _ _).drew, hf.only (Only.refl _ _).drew, hO2.drew⟩ | exact hkp)
        (first | (go_at_call 74; refine (CC.out _ (mthD (by assumption))).mono ?_; rintro e w2 ⟨rfl, hww⟩; subst hww; have hkp := keepD (Only.refl (fun _ => False) _) (by assumption)))
      all_goals
        have HO3 := Lib.hid (onlyD (by assumption))
        go_wp2
        go_roundw
        case rel => exact ⟨j + 1, s + c, by go_num, by go_num, by omega, by omega, HST, HO3⟩
        case measure => simp [intOf]; omega
    · obtain rfl : j = n := by omega
      clear hlt hj
      go_wp2
      go_ret
      rw [HSN.out]
      exact ⟨rfl, HON.out⟩
end Go.Proofs.YtddjdlbmadlefaaGreatDoor
namespace Go.Proofs.YtddjdlbmadlefaaGreatDoor
open Go.RowKit
set_option linter.unusedVariables false
set_option linter.unusedSimpArgs false

set_option maxHeartbeats 8000000 in
set_option maxRecDepth 100000 in
theorem refSlotsN (pb : Nat) (ks : List KindV) (cs : List ClassV) (hs : SmallK ks) (he : EndsAll ks) : ∀ (m : Nat) (x : Int), x < ks.length → (upZ ks x).length = m → ∀ w : World, DocP w pb ks cs →
    Calls Tryz.prog 73 #[.pointer (some ⟨pb, 0, none⟩), .int .i64 x, .bool false] w fun e w' => e = .returned (.int .i64 (slotsN ks x : Int)) ∧ Only (fun _ => False) w w' := by
  intro m
  induction m with
  | zero =>
    intro x hx hm w hd
    have h0 : x < 0 := Classical.byContradiction (fun h => by
      obtain ⟨j, rfl⟩ := Int.eq_ofNat_of_zero_le (show 0 ≤ x by omega)
      rw [upZ_step he (by omega)] at hm
      cases hm)
    rw [slotsN_end h0]
    clear hd
    go_enter Tryz.func73, Tryz.ntmps73
    go_wp2
    go_ret
    exact ⟨rfl, Only.refl _ _⟩
  | succ m ih =>
    intro x hx hm w hd
    have h0 : ¬ x < 0 := fun h => by
      rw [upZ_end h] at hm
      cases hm
    obtain ⟨j, rfl⟩ := Int.eq_ofNat_of_zero_le (show 0 ≤ x by omega)
    have hjk : j < ks.length := by omega
    have hup := upZ_step he hjk
    rw [hup, List.length_cons] at hm
    have hst := slotsN_step he hjk
    have hsm := slotsN_small hs he (superZ_lt ks j)
    have IH := Lib.hid (fun W (h : DocP W pb ks cs) => ih (superZ ks j) (superZ_lt ks j) (by omega) W h)
    have CS := Lib.hid (fun W (h : DocP W pb ks cs) => refSuperN pb ks cs j W h (by have := hs.1; omega))
    have hjkz : (j : Int) < (ks.length : Int) := by omega
    have hj0 : (0 : Int) ≤ (j : Int) := by omega
    have hj1 : ¬ (j : Int) < 0 := by omega
    have hD := hd
    obtain ⟨vl, vi, q0, q1, hk, hc⟩ := hd
    obtain ⟨ao, cap, rfl, p1, p2⟩ := hk.len
    obtain ⟨b, o, vf, vm, rfl, y, hf, -⟩ := hk.at hjk
    have q2 := y.c2
    have hfl := (hs.2 _ (getD_mem hjk)).1
    have hcl := countL_le 0 (ks.getD j default).fields
    generalize superZ ks j = sz at *
    generalize ks.getD j default = p at *
    obtain ⟨af, cf, rfl, f1, f2, f3, -⟩ := id hf
    have CC : Hid (∀ W, MethNs W (.slice af p.fields.length cf) p.fields → _) := Lib.hid (fun W h => refCount _ p.fields p.fields.length 0 W h (by omega) (Nat.le_refl _))
    rw [List.take_length] at CC
    obtain ⟨c, hcq⟩ : ∃ c, countL 0 p.fields = c := ⟨_, rfl⟩
    obtain ⟨s, hsq⟩ : ∃ s, slotsN ks sz = s := ⟨_, rfl⟩
    rw [hcq] at CC hcl hst
    rw [hsq] at IH hsm hst
    have hsc : IntKind.i64.wrap ((s : Int) + (c : Int)) = (s : Int) + (c : Int) := by rw [IntKind.wrap_i64]; omega
    have HST : Hid ((slotsN ks (j : Int) : Int) = (s : Int) + (c : Int)) := Lib.hid (by rw [hst]; omega)
    have hO := Only.refl (fun _ => False) w
    clear hk hc q1 y f3 hcq hsq hst ih hup hm h0
    go_enter Tryz.func73, Tryz.ntmps73
    go_wp2
    go_region_held3 (fun W => (W.cell? ⟨pb, 0, none⟩ = some (.slice (some ⟨b, o, none⟩) ks.length cap) ∧ W.cell? ⟨b, o + j * 5 + 2, none⟩ = some (.slice af p.fields.length cf)) ∧ DocP W pb ks cs ∧ MethNs W (.slice af p.fields.length cf) p.fields ∧ Only (fun _ => False) w W)
      (first | exact ⟨⟨q0, q2⟩, hD, hf, hO⟩ | exact ⟨⟨q0, q2⟩, hD.only (Only.refl _ _).drew, hf.only (Only.refl _ _).drew, hO.drew⟩ | exact hkp)
      (first
        | (go_at_call 74; refine (CC.out _ (mthD (by assumption))).mono ?_; rintro e w2 ⟨rfl, hww⟩; subst hww; have hkp := keepD (Only.refl (fun _ => False) _) (by assumption))
        | (go_at_call 66; refine (CS.out _ (docD (by assumption))).mono ?_; rintro e w2 ⟨rfl, hww⟩; subst hww; have hkp := keepD (Only.refl (fun _ => False) _) (by assumption))
        | (go_at_call 73; refine (IH.out _ (docD (by assumption))).mono ?_; rintro e w2 ⟨rfl, hww⟩; have hkp := keepD hww (by assumption)))
    all_goals
      have HO3 := Lib.hid (onlyD (by assumption))
      go_wp2
      go_ret
      rw [HST.out]
      exact ⟨rfl, HO3.out⟩

def initB : ByteArray := ⟨#[60, 105, 110, 105, 116, 62]⟩
theorem lit_init : (⟨#[60, 105, 110, 105, 116, 62]⟩ : ByteArray).toList = [60, 105, 110, 105, 116, 62] := by rw [ByteArray.toList_eq]
/-- The first of a chain that has such a method. -/
def firstO : List Nat → (Nat → Option MemV) → Option MemV
  | [], _ => none
  | j :: r, f => match f j with | some m => some m | none => firstO r f
def lookZ (ks : List KindV) (c n d : ByteArray) : Option MemV := if n = initB then none else firstO (upZ ks (findZ ks c)) (fun j => ownAt ks j n d)
/-- Each name is there once. -/
def NamesOnce (ks : List KindV) : Prop := ∀ j, j < ks.length → findZ ks (ks.getD j default).name = (j : Int)
theorem ownZ_at {ks : List KindV} (hn : NamesOnce ks) {j : Nat} (h : j < ks.length) (n d : ByteArray) : ownZ ks (ks.getD j default).name n d = ownAt ks j n d := by
  unfold ownZ
  rw [hn j h, if_neg (by omega)]
  rfl
def intZ : Value → Int
  | .int _ x => x
  | _ => 0
set_option maxHeartbeats 8000000 in
set_option maxRecDepth 100000 in
theorem refLook (pb : Nat) (ks : List KindV) (cs : List ClassV) (c n d : ByteArray) (w : World) (hd : DocP w pb ks cs) (hs : SmallK ks) (he : EndsAll ks) (ho : NamesOnce ks) :
    Calls Tryz.prog 21 #[.pointer (some ⟨pb, 0, none⟩), .string c, .string n, .string d] w (MemTo w (lookZ ks c n d)) := by
  have ho0 := (Only.refl (fun _ => False) w).alloc (.cells #[.int .i64 0, .int .i64 0, .string ⟨#[]⟩, .bool false, .int .i64 0] 34)
  have hr0 := heap_alloc_new w (.cells #[.int .i64 0, .int .i64 0, .string ⟨#[]⟩, .bool false, .int .i64 0] 34)
  have HD := Lib.hid (hd.only ho0)
  have HR := Lib.hid hr0
  have HO := Lib.hid ho0
  have C1 := Lib.hid (refFind pb ks cs c _ HD.out (by have := hs.1; omega))
  have HS := Lib.hid hs
  have HE := Lib.hid he
  have HN := Lib.hid ho
  have hli := lit_init
  have hfl : findZ ks c < ks.length := by
    rcases findZ_cases ks c with h | ⟨j, hj, h⟩
    · rw [h]; omega
    · rw [h]; omega
  have HFL := Lib.hid hfl
  have hkl := hs.1
  clear hd hs he ho ho0 hr0 hfl
  go_enter Tryz.func21, Tryz.ntmps21
  go_wp2_with (fail)
  refine C1.out.mono ?_
  rintro e w2 ⟨rfl, rfl⟩
  by_cases hni : n = initB
  · have HB := Lib.hid (show lookZ ks c n d = none from if_pos hni)
    have hni' := hni
    unfold initB at hni'
    subst hni'
    clear hni
    obtain ⟨q0, q1, q2, q3, q4⟩ := cells5T HR.out
    obtain ⟨f0, f1, f2, f3, f4⟩ := marks5T HR.out
    go_wp2
    go_loop [10] (fun xv => ∃ x : Int, xv = .int .i64 x) (fun xv => 0)
    case atStart => exact ⟨_, rfl⟩
    case round =>
      obtain ⟨x, rfl⟩ := hrel
      by_cases hx : 0 ≤ x
      · go_wp2
        exact bodyPost_ret (mem_result2 (t := zeroM) (b := w.heap.size) Tryz.results21 (heap_alloc_new w _) rfl rfl) rfl (MemTo.no HB.out HO.out)
      · go_wp2
        exact bodyPost_ret (mem_result2 (t := zeroM) (b := w.heap.size) Tryz.results21 (heap_alloc_new w _) rfl rfl) rfl (MemTo.no HB.out HO.out)
  · have HB0 := Lib.hid (show lookZ ks c n d = firstO (upZ ks (findZ ks c)) (fun j => ownAt ks j n d) from if_neg hni)
    obtain ⟨n1, n2⟩ := toList_beq hni
    unfold initB at n1 n2
    rw [lit_init] at n1 n2
    have n3 : (n.toList != [60, 105, 110, 105, 116, 62]) = true := by rw [bne, n1]; rfl
    clear hni
    go_wp2
    go_loopw [10] (fun xv wr => ∃ x : Int, xv = .int .i64 x ∧ x < ks.length ∧ Hid (lookZ ks c n d = firstO (upZ ks x) (fun j => ownAt ks j n d)) ∧ Hid (DocP wr pb ks cs) ∧ Hid (wr.heap[w.heap.size]? = some (.cells #[.int .i64 0, .int .i64 0, .string ⟨#[]⟩, .bool false, .int .i64 0] 34 (0, 0))) ∧ Hid (Only (fun _ => False) w wr)) (fun xv _ => (upZ ks (intOf xv)).length)
    case atStart => exact ⟨_, rfl, HFL.out, HB0, HD, HR, HO⟩
    case round =>
      obtain ⟨x, rfl, hxl, HL, HDW, HRW, HOW⟩ := hrel
      by_cases hx : 0 ≤ x
      · obtain ⟨j, rfl⟩ := Int.eq_ofNat_of_zero_le hx
        have hjk : j < ks.length := by omega
        have hjkz : (j : Int) < (ks.length : Int) := by omega
        have HUP := Lib.hid (upZ_step HE.out hjk)
        obtain ⟨vl, vi, q0, q1, hk, hc⟩ := HDW.out
        obtain ⟨ao, cap, rfl, p1, p2⟩ := hk.len
        obtain ⟨b, o, vf, vm, rfl, y, -, -⟩ := hk.at hjk
        have q2 := y.c0
        have c2 := refOwn pb ks cs (ks.getD j default).name n d wr HDW.out HS.out
        rw [ownZ_at HN.out hjk] at c2
        have C3 := Lib.hid (fun W (h : DocP W pb ks cs) => refSuperN pb ks cs j W h (by omega))
        generalize (ks.getD j default).name = nm at *
        clear hk hc q1 y
        unfold MemTo at c2
        cases hoa : ownAt ks j n d with
        | none =>
          have HL2 := Lib.hid (show lookZ ks c n d = firstO (upZ ks (superZ ks j)) (fun j => ownAt ks j n d) by rw [HL.out, HUP.out]; show (match ownAt ks j n d with | some m => some m | none => _) = _; rw [hoa])
          rw [hoa] at c2
          unfold memO errM zeroM valM at c2
          simp only at c2
          have C2 := Lib.hid c2
          clear c2 hoa
          go_wp2_with (fail)
          refine C2.out.mono ?_
          rintro e w3 ⟨rfl, ho3⟩
          have hal := ho3.alloc (.cells #[.int .i64 0, .int .i64 0, .string ⟨#[]⟩, .bool false, .int .i64 0] 34)
          have HD4 := Lib.hid (HDW.out.only hal)
          have HR4 := Lib.hid (hal.heap HRW.out (fun h => h))
          have HO4 := Lib.hid (HOW.out.trans hal (fun _ h _ => h))
          clear ho3 hal C2
          go_wp2_with (fail)
          refine (C3.out _ HD4.out).mono ?_
          rintro e w4 ⟨rfl, hww⟩
          subst hww
          go_wp2
          go_roundw
          case rel => exact ⟨_, rfl, superZ_lt ks j, HL2, HD4, HR4, HO4⟩
          case measure => show (upZ ks (superZ ks j)).length < (upZ ks (j : Int)).length; rw [HUP.out, List.length_cons]; omega
        | some m =>
          have HB := Lib.hid (show lookZ ks c n d = some m by rw [HL.out, HUP.out]; show (match ownAt ks j n d with | some m => some m | none => _) = _; rw [hoa])
          rw [hoa] at c2
          unfold memO errM valM at c2
          simp only at c2
          have C2 := Lib.hid c2
          clear c2 hoa
          go_wp2_with (fail)
          refine C2.out.mono ?_
          rintro e w3 ⟨rfl, ho3⟩
          have hal := ho3.alloc (.cells #[.int .i64 m.cls, .int .i64 m.place, .string m.desc, .bool m.static, .int .i64 m.slot] 34)
          have hr4 := hal.heap HRW.out (fun h => h)
          have HR4 := Lib.hid hr4
          have HO4 := Lib.hid (HOW.out.trans hal (fun _ h _ => h))
          obtain ⟨f0, f1, f2, f3, f4⟩ := marks5T hr4
          obtain ⟨r0, r1, r2, r3, r4⟩ := cells5T hr4
          clear ho3 hal C2 hr4
          go_wp2
          exact bodyPost_ret (mem_result2 (t := m) (b := w.heap.size) Tryz.results21 (store5T HR4.out) rfl rfl) rfl (MemTo.yes HB.out (only5T HO4.out (fun hl => absurd hl (Nat.lt_irrefl _))))
      · have HB := Lib.hid (show lookZ ks c n d = none by rw [HL.out, upZ_end (by omega)]; rfl)
        have hr4 := HRW.out
        obtain ⟨f0, f1, f2, f3, f4⟩ := marks5T hr4
        obtain ⟨r0, r1, r2, r3, r4⟩ := cells5T hr4
        clear hr4
        go_wp2
        exact bodyPost_ret (mem_result2 (t := zeroM) (b := w.heap.size) Tryz.results21 (store5T HRW.out) rfl rfl) rfl (MemTo.no HB.out (only5T HOW.out (fun hl => absurd hl (Nat.lt_irrefl _))))
end Go.Proofs.YtddjdlbmadlefaaGreatDoor
