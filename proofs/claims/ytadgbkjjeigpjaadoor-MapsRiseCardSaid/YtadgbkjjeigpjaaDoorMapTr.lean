/- The document's Type, and whether one is KThis. Condition: a text that can be. -/
import Derived.Test.YtadgbkjjeigpjaaDoorMapV
namespace Go.Proofs.YtadgbkjjeigpjaaDoor
open Go.RowKit
set_option linter.unusedVariables false
set_option linter.unusedSimpArgs false

/-- What Type answers. -/
def TypeTo (w : World) (s : ByteArray) (e : Ending) (w' : World) : Prop := e = .returned (.tuple #[valT (typO (typeN s)), .bool (typeN s).isSome]) ∧ Only (fun _ => False) w w'
theorem errO_eq (o : Option TypeV) : (errO o == 0) = o.isSome := by cases o <;> rfl

theorem at0_toNat {s : ByteArray} {c : Int} {r : List Int} (h : nums s = c :: r) (h0 : 0 < s.size) : ((s[0].toNat : Nat) : Int) = c := by
  have := nums_at h0
  rw [h] at this
  simpa using this.symm
set_option maxHeartbeats 4000000 in
set_option maxRecDepth 100000 in
theorem refMType (s : ByteArray) (w : World) (hs : s.size ≤ 140737488351232) : Calls Tryd.prog 52 #[.string s] w (TypeTo w s) := by
  have hr0 := heap_alloc_new w (.cells #[.int .i64 0, .string ⟨#[]⟩, .int .i64 0, .int .i64 0, .int .i64 0] 39)
  have ho0 := (Only.refl (fun _ => False) w).alloc (.cells #[.int .i64 0, .string ⟨#[]⟩, .int .i64 0, .int .i64 0, .int .i64 0] 39)
  have HR0 := Lib.hid hr0
  have HO0 := Lib.hid ho0
  clear hr0 ho0
  by_cases h0 : s = ⟨#[]⟩
  · subst h0
    have HQ := Lib.hid (show TypeTo w ⟨#[]⟩ = fun e w' => e = .returned (.tuple #[valT zeroT, .bool false]) ∧ Only (fun _ => False) w w' from rfl)
    have cP := fun w => refPlainN ⟨#[]⟩ w (by omega)
    rw [show plainN (nums ⟨#[]⟩) = false from rfl] at cP
    have CP := Lib.hid cP
    have hte := toList_empty
    clear cP
    go_enter Tryd.func52, Tryd.ntmps52
    rw [HQ.out]
    go_wp2_with (fail)
    refine (CP.out _).mono ?_
    rintro e w1 ⟨rfl, rfl⟩
    obtain ⟨f0, f1, f2, f3, f4⟩ := marks5T HR0.out
    obtain ⟨q0, q1, q2, q3, q4⟩ := cells5T HR0.out
    go_wp2
    exact bodyPost_ret (type_result2 (t := zeroT) (b := w.heap.size) Tryd.results52 (heap_alloc_new w _) rfl rfl) rfl ⟨rfl, (Only.refl _ w).alloc _⟩
  · obtain ⟨v1, v2⟩ := toList_ne h0
    obtain ⟨c, r, hn⟩ := nums_ne h0
    have h0s : 0 < s.size := by rw [← nums_len, hn]; simp
    have h0z : (0 : Int) < (s.size : Int) := by omega
    have hc := at0_toNat hn h0s
    by_cases h9 : c = 91
    · have he : typeN s = oneZ8 (nums s) := typeN_arr (by unfold headIs1; rw [hn, h9]; rfl)
      rw [h9] at hc
      obtain ⟨o, ho⟩ : ∃ o, oneZ8 (nums s) = o := ⟨_, rfl⟩
      have cF := fun w => refField s w (by omega)
      rw [ho] at he
      unfold valT at cF
      simp only [ho] at cF
      obtain ⟨t, ht⟩ : ∃ t, typO o = t := ⟨_, rfl⟩
      obtain ⟨er, her⟩ : ∃ er, errO o = er := ⟨_, rfl⟩
      rw [ht, her] at cF
      have HQ := Lib.hid (show TypeTo w s = fun e w' => e = .returned (.tuple #[valT t, .bool (er == 0)]) ∧ Only (fun _ => False) w w' by unfold TypeTo; rw [he, ht, ← errO_eq, her])
      have CF := Lib.hid cF
      clear cF he ho ht her hn h9 h0
      go_enter Tryd.func52, Tryd.ntmps52
      rw [HQ.out]
      go_wp2_with (fail)
      refine (CF.out _).mono ?_
      rintro e w1 ⟨rfl, ho1⟩
      have hal := (Only.refl (fun _ => False) w1).alloc (.cells #[.int .i64 t.k, .string t.name, .int .i64 t.dims, .int .i64 t.elem, .int .i64 t.at_] 39)
      have hr1 := hal.heap (ho1.heap HR0.out (fun h => h)) (fun h => h)
      have HON1 := Lib.hid ((HO0.out.trans ho1 (fun _ h _ => h)).trans hal (fun _ h _ => h))
      obtain ⟨f0, f1, f2, f3, f4⟩ := marks5T hr1
      obtain ⟨q0, q1, q2, q3, q4⟩ := cells5T hr1
      have HR1 := Lib.hid hr1
      clear hr1 ho1 CF hal
      go_wp2
      exact bodyPost_ret (type_result2 (t := t) (b := w.heap.size) Tryd.results52 (store5T HR1.out) rfl rfl) rfl ⟨rfl, only5T HON1.out (fun hl => absurd hl (Nat.lt_irrefl _))⟩
    · have he : typeN s = if plainN (nums s) then some ⟨4, s, 0, 0, 0⟩ else none := typeN_name (by unfold headIs1; rw [hn]; simp [h9])
      have hcb : (((s[0].toNat : Nat) : Int) == 91) = false := by rw [hc]; simpa using h9
      have hcn : ¬ ((s[0].toNat : Nat) : Int) = 91 := by rw [hc]; exact h9
      have cP := fun w => refPlainN s w (by omega)
      obtain ⟨f0, f1, f2, f3, f4⟩ := marks5T HR0.out
      obtain ⟨q0, q1, q2, q3, q4⟩ := cells5T HR0.out
      cases hp : plainN (nums s) with
      | false =>
        rw [hp] at he
        simp only [hp] at cP
        have HQ := Lib.hid (show TypeTo w s = fun e w' => e = .returned (.tuple #[valT zeroT, .bool false]) ∧ Only (fun _ => False) w w' by unfold TypeTo; rw [he]; rfl)
        have CP := Lib.hid cP
        clear cP he hn h9 hp h0 hc
        go_enter Tryd.func52, Tryd.ntmps52
        rw [HQ.out]
        go_wp2_with (fail)
        refine (CP.out _).mono ?_
        rintro e w1 ⟨rfl, rfl⟩
        go_wp2
        exact bodyPost_ret (type_result2 (t := zeroT) (b := w.heap.size) Tryd.results52 (heap_alloc_new w _) rfl rfl) rfl ⟨rfl, (Only.refl _ w).alloc _⟩
      | true =>
        rw [hp] at he
        simp only [hp] at cP
        have HQ := Lib.hid (show TypeTo w s = fun e w' => e = .returned (.tuple #[valT ⟨4, s, 0, 0, 0⟩, .bool true]) ∧ Only (fun _ => False) w w' by unfold TypeTo; rw [he]; rfl)
        have CP := Lib.hid cP
        clear cP he hn h9 hp h0 hc
        go_enter Tryd.func52, Tryd.ntmps52
        rw [HQ.out]
        go_wp2_with (fail)
        refine (CP.out _).mono ?_
        rintro e w1 ⟨rfl, rfl⟩
        go_wp2
        exact bodyPost_ret (type_result2 (t := ⟨4, s, 0, 0, 0⟩) (b := w.heap.size) Tryd.results52 (heap_alloc_new w _) rfl rfl) rfl ⟨rfl, (Only.refl _ w).alloc _⟩
end Go.Proofs.YtadgbkjjeigpjaaDoor
